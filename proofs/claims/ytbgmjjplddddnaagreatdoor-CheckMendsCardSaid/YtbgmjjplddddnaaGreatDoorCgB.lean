import Derived.Test.YtbgmjjplddddnaaGreatDoorCgA
set_option linter.unusedSimpArgs false
set_option linter.unusedVariables false
set_option maxRecDepth 100000
namespace Go.Proofs.YtbgmjjplddddnaaGreatDoor
open Go.Lift
def Tz0:LT:={ live:=[(4,[0,3]),(9,[0,3,4])],keep:=[] }
noncomputable def Ez0:Bn:={ tab:=tab,fs:=[],inl:=[] }
noncomputable def QIn (v:Y70):St:={ s:=[(0,(.val ⟨qj,v.1⟩)),(3,(.val ⟨Z2,v.2.1⟩)),(4,(.val ⟨Z2,v.2.2⟩))],l:=[],k:=[],b:=4096 }
noncomputable def QEa (v:zF):St:={ s:=[(0,(.val ⟨qj,v.1⟩)),(3,(.val ⟨Z2,v.2⟩))],l:=[],k:=[],b:=4096 }
def mF (aG:zF->Option (Bool)) (aH:Y70->Option (Bool)) (v:Y70):Option (Bool):=
 ((Nk v.1 v.2.1).bind fun x2=>(bif (decide (v.2.2 < (List.length x2.2.2.2.1:Int))) then ((Nk v.1 v.2.1).bind fun x3=>((Nk x3.2.2.2.1 v.2.2).bind fun x4=>(bif (decide ((List.length x4.1:Int) > 100)) then (some true) else (let x5:Int:=(IntKind.i64.wrap (v.2.2+1));(aH (v.1,v.2.1,x5)))))) else (let x6:Int:=(IntKind.i64.wrap (v.2.1+1));(aG (v.1,x6)))))
def fq (N:Nat) (aG:zF->Option (Bool)) (aH:Y70->Option (Bool)) (v:Y70):Option (Bool):=mF aG aH v
theorem QVG (N:Nat) (s0:St->Option (Bool)) (s1:St->Option (Bool)) (v):(ZR (Ez0) Tz0 6 N Tryz.f55 [.bool] [false] [] 1 (Yx s0 Xv)) s1 (QIn v)=fq N (fun v=>s0 (QEa v)) (fun v=>s1 (QIn v)) v:=by kernel_rfl
def eB (bF:Y70->Option (Bool)) (aG:zF->Option (Bool)) (v:zF):Option (Bool):=
 (bif (decide (v.2 < (List.length v.1:Int))) then ((Nk v.1 v.2).bind fun x1=>(bif (decide ((List.length x1.2.2.2.1:Int) > 20)) then (some true) else (bF (v.1,v.2,(0:Int))))) else (some false))
def lZ (N:Nat) (aG:zF->Option (Bool)) (v:zF):Option (Bool):=eB (Gb (fq N aG) N) aG v
theorem QVF (N:Nat) (s0:St->Option (Bool)) (v):(ZR (Ez0) Tz0 6 N Tryz.f55 [.bool] [false] [] 0 Xv) s0 (QEa v)=lZ N (fun v=>s0 (QEa v)) v:=Eq.trans (b:=eB (fun v=>Ot (ZR (Ez0) Tz0 6 N Tryz.f55 [.bool] [false] [] 1 (Yx s0 Xv)) N (QIn v)) (fun v=>s0 (QEa v)) v) (by kernel_rfl) (by rw [funext (Tf QIn (QVG N s0) N)];rfl)
def uW (aJ:zF->Option (Bool)) (x:Zv):Option (Bool):=
 (bif (decide ((List.length x:Int) > 40)) then (some true) else (aJ (x,(0:Int))))
def QBN (N:Nat) (x:Zv):Option (Bool):=uW (Gb (lZ N) N) x
theorem lz0 (N:Nat) (x:Zv):rise (Ez0) Tz0 6 N Tryz.f55 [qj] [.bool] [false] x=QBN N x:=Eq.trans (b:=uW (fun v=>Ot (ZR (Ez0) Tz0 6 N Tryz.f55 [.bool] [false] [] 0 Xv) N (QEa v)) x) (by kernel_rfl) (by rw [funext (Tf QEa (QVF N) N)];rfl)
def yY (x:Zv):Option (Bool):=QBN big x
def Gz0:U0:=⟨[qj],[.bool],[false],fun x=>yY x⟩
theorem Lz0:Hw Tryz.prog 55 Gz0:=rz (E:=Ez0) ⟨aK,Yc,fun _ _ _=>rfl,mixed,Yt,Y0,Yz⟩ Tryz.func55 fun _ _ h=>(lz0 big _).trans h
def Tz1:LT:={ live:=[(4,[1,3]),(10,[1,4,5]),(17,[1,4,5,6,7])],keep:=[] }
noncomputable def Ez1:Bn:={ tab:=tab,fs:=[(55,Gz0)],inl:=[] }
noncomputable def QIp (v:Y45):St:={ s:=[(1,(.loc 0 [])),(4,(.val ⟨Z2,v.1⟩)),(5,(.val ⟨Z2,v.2.1⟩)),(6,(.loc 1 [])),(7,(.val ⟨Z2,v.2.2.1⟩))],l:=[(0,.var Z3 (.val ⟨Z3,v.2.2.2.1⟩)),(1,.var Z0 (.val ⟨Z0,v.2.2.2.2⟩))],k:=[],b:=4096 }
noncomputable def QEb (v:Y71):St:={ s:=[(1,(.loc 0 [])),(4,(.val ⟨Z2,v.1⟩)),(5,(.val ⟨Z2,v.2.1⟩))],l:=[(0,.var Z3 (.val ⟨Z3,v.2.2⟩))],k:=[],b:=4096 }
noncomputable def QCJ (v:Y80):St:={ s:=[(1,(.loc 0 [])),(3,(.val ⟨Z2,v.1⟩))],l:=[(0,.var Z3 (.val ⟨Z3,v.2⟩))],k:=[],b:=4096 }
def vK (aG:Y80->Option (Bool)) (aH:Y71->Option (Bool)) (bJ:Y45->Option (Bool)) (v:Y45):Option (Bool):=
 (bif (decide (v.2.2.1 < (List.length v.2.2.2.2.2.2.2.1:Int))) then ((Nk v.2.2.2.2.2.2.2.1 v.2.2.1).bind fun x6=>(bif (decide ((List.length x6.1:Int) > 100)) then (some true) else (let x7:Int:=(IntKind.i64.wrap (v.2.2.1+1));(bJ (v.1,v.2.1,x7,v.2.2.2.1,v.2.2.2.2))))) else (let x8:Int:=(IntKind.i64.wrap (v.2.1+1));(aH (v.1,x8,v.2.2.2.1))))
def jK (N:Nat) (aG:Y80->Option (Bool)) (aH:Y71->Option (Bool)) (bJ:Y45->Option (Bool)) (v:Y45):Option (Bool):=vK aG aH bJ v
theorem QVK (N:Nat) (s0:St->Option (Bool)) (s1:St->Option (Bool)) (s2:St->Option (Bool)) (v):(ZR (Ez1) Tz1 6 N Tryz.f18 [.bool] [false] [] 2 (Yx s1 Xv)) s2 (QIp v)=jK N (fun v=>s0 (QCJ v)) (fun v=>s1 (QEb v)) (fun v=>s2 (QIp v)) v:=by kernel_rfl
def qR (zn:Y45->Option (Bool)) (aG:Y80->Option (Bool)) (aH:Y71->Option (Bool)) (v:Y71):Option (Bool):=
 (bif (decide (v.2.1 < (List.length v.2.2.2.2.1:Int))) then ((Nk v.2.2.2.2.1 v.2.1).bind fun x4=>(let x5:Int:=(IntKind.i64.wrap (v.1+(List.length x4.2.2.2.2.1:Int)));(bif (decide ((List.length x4.1:Int) > 100)) then (some true) else (bif (decide ((List.length x4.2.2.2.1:Int) > 20)) then (some true) else (bif (decide ((List.length x4.2.2.2.2.1:Int) > 210)) then (some true) else (bif (decide ((List.length x4.2.2.2.2.2.1:Int) > 210)) then (some true) else (bif (decide ((List.length x4.2.2.2.2.2.2.1:Int) > 210)) then (some true) else (bif (decide (x5 > 1000)) then (some true) else (zn (x5,v.2.1,(0:Int),v.2.2,x4)))))))))) else (some false))
def jJ (N:Nat) (aG:Y80->Option (Bool)) (aH:Y71->Option (Bool)) (v:Y71):Option (Bool):=qR (Gb (jK N aG aH) N) aG aH v
theorem QVJ (N:Nat) (s0:St->Option (Bool)) (s1:St->Option (Bool)) (v):(ZR (Ez1) Tz1 6 N Tryz.f18 [.bool] [false] [] 1 Xv) s1 (QEb v)=jJ N (fun v=>s0 (QCJ v)) (fun v=>s1 (QEb v)) v:=Eq.trans (b:=qR (fun v=>Ot (ZR (Ez1) Tz1 6 N Tryz.f18 [.bool] [false] [] 2 (Yx s1 Xv)) N (QIp v)) (fun v=>s0 (QCJ v)) (fun v=>s1 (QEb v)) v) (by kernel_rfl) (by rw [funext (Tf QIp (QVK N s0 s1) N)];rfl)
def qQ (bF:Y71->Option (Bool)) (aG:Y80->Option (Bool)) (v:Y80):Option (Bool):=
 (bif (decide (v.1 < (List.length v.2.2.1:Int))) then ((Nk v.2.2.1 v.1).bind fun x2=>(bif (decide ((List.length x2:Int) > 100)) then (some true) else (let x3:Int:=(IntKind.i64.wrap (v.1+1));(aG (x3,v.2))))) else (bF ((0:Int),(0:Int),v.2)))
def jI (N:Nat) (aG:Y80->Option (Bool)) (v:Y80):Option (Bool):=qQ (Gb (jJ N aG) N) aG v
theorem QVI (N:Nat) (s0:St->Option (Bool)) (v):(ZR (Ez1) Tz1 6 N Tryz.f18 [.bool] [false] [] 0 Xv) s0 (QCJ v)=jI N (fun v=>s0 (QCJ v)) v:=Eq.trans (b:=qQ (fun v=>Ot (ZR (Ez1) Tz1 6 N Tryz.f18 [.bool] [false] [] 1 Xv) N (QEb v)) (fun v=>s0 (QCJ v)) v) (by kernel_rfl) (by rw [funext (Tf QEb (QVJ N s0) N)];rfl)
def um (aJ:Y80->Option (Bool)) (x:Zx):Option (Bool):=
 ((yY x.1).bind fun x1=>(bif x1 then (some true) else (bif (decide ((List.length x.2.1:Int) > 40)) then (some true) else (bif (decide ((List.length x.2.2.1:Int) > 40)) then (some true) else (aJ ((0:Int),x))))))
def QBV (N:Nat) (x:Zx):Option (Bool):=um (Gb (jI N) N) x
theorem lz1 (N:Nat) (x:Zx):rise (Ez1) Tz1 6 N Tryz.f18 [Z3] [.bool] [false] x=QBV N x:=Eq.trans (b:=um (fun v=>Ot (ZR (Ez1) Tz1 6 N Tryz.f18 [.bool] [false] [] 0 Xv) N (QCJ v)) x) (by kernel_rfl) (by rw [funext (Tf QCJ (QVI N) N)];rfl)
def yj (x:Zx):Option (Bool):=QBV big x
def Gz1:U0:=⟨[Z3],[.bool],[false],fun x=>yj x⟩
theorem Lz1:Hw Tryz.prog 18 Gz1:=rz (E:=Ez1) ⟨aK,(YH Lz0 Yc),fun _ _ _=>rfl,mixed,Yt,Y0,Yz⟩ Tryz.func18 fun _ _ h=>(lz1 big _).trans h
def Tz2:LT:={ live:=[],keep:=[] }
noncomputable def Ez2:Bn:={ tab:=tab,fs:=[],inl:=[] }
def xV (x:Int):Option (Bool):=
 (bif (decide (x≥97)) then (bif (decide (x<=122)) then (some true) else (bif (decide (x≥65)) then (some (decide (x<=90))) else (some false))) else (bif (decide (x≥65)) then (some (decide (x<=90))) else (some false)))
def ni (x:Int):Option (Bool):=xV x
def Gz2:U0:=⟨[mQ],[.bool],[false],fun x=>ni x⟩
theorem Lz2:Hw Tryz.prog 176 Gz2:=rz (E:=Ez2) (lt:=Tz2) (lv:=6) (N:=big) ⟨aK,Yc,fun _ _ _=>rfl,mixed,Yt,Y0,Yz⟩ Tryz.func176 fun x _ h=>Eq.trans (b:=ni x) (by kernel_rfl) h
def Tz3:LT:={ live:=[(4,[0,3])],keep:=[] }
noncomputable def Ez3:Bn:={ tab:=tab,fs:=[(176,Gz2)],inl:=[] }
noncomputable def QIq (v:Zw×Int):St:={ s:=[(0,(.val ⟨.str,v.1⟩)),(3,(.val ⟨Z2,v.2⟩))],l:=[],k:=[],b:=4096 }
def mG (aG:Zw×Int->Option (Bool)) (v:Zw×Int):Option (Bool):=
 (bif (decide (v.2 < (List.length v.1:Int))) then ((Nk v.1 v.2).bind fun x3=>((ni x3).bind fun x4=>(bif (!x4) then ((Nk v.1 v.2).bind fun x5=>(bif (decide (x5 < 48)) then (some false) else ((Nk v.1 v.2).bind fun x6=>(bif (decide (x6 > 57)) then (some false) else (let x7:Int:=(IntKind.i64.wrap (v.2+1));(aG (v.1,x7))))))) else (let x8:Int:=(IntKind.i64.wrap (v.2+1));(aG (v.1,x8)))))) else (some true))
def qC (N:Nat) (aG:Zw×Int->Option (Bool)) (v:Zw×Int):Option (Bool):=mG aG v
theorem QVL (N:Nat) (s0:St->Option (Bool)) (v):(ZR (Ez3) Tz3 6 N Tryz.f145 [.bool] [false] [] 0 Xv) s0 (QIq v)=qC N (fun v=>s0 (QIq v)) v:=by kernel_rfl
def uX (aJ:Zw×Int->Option (Bool)) (x:Zw):Option (Bool):=
 (bif (decide ((List.length x:Int) < 1)) then (some false) else (bif (decide ((List.length x:Int) > 16)) then (some false) else ((Nk x (0:Int)).bind fun x1=>((ni x1).bind fun x2=>(bif (!x2) then (some false) else (aJ (x,(0:Int))))))))
def QBO (N:Nat) (x:Zw):Option (Bool):=uX (Gb (qC N) N) x
theorem lz3 (N:Nat) (x:Zw):rise (Ez3) Tz3 6 N Tryz.f145 [.str] [.bool] [false] x=QBO N x:=Eq.trans (b:=uX (fun v=>Ot (ZR (Ez3) Tz3 6 N Tryz.f145 [.bool] [false] [] 0 Xv) N (QIq v)) x) (by kernel_rfl) (by rw [funext (Tf QIq (QVL N) N)];rfl)
def uF (x:Zw):Option (Bool):=QBO big x
def Gz3:U0:=⟨[.str],[.bool],[false],fun x=>uF x⟩
theorem Lz3:Hw Tryz.prog 145 Gz3:=rz (E:=Ez3) ⟨aK,(YH Lz2 Yc),fun _ _ _=>rfl,mixed,Yt,Y0,Yz⟩ Tryz.func145 fun _ _ h=>(lz3 big _).trans h
def Tz4:LT:={ live:=[(4,[0,5]),(9,[0,5,6])],keep:=[] }
noncomputable def Ez4:Bn:={ tab:=tab,fs:=[(145,Gz3)],inl:=[] }
noncomputable def QIr (v:aA×Int×Int):St:={ s:=[(0,(.val ⟨Z7,v.1⟩)),(5,(.val ⟨Z2,v.2.1⟩)),(6,(.val ⟨Z2,v.2.2⟩))],l:=[],k:=[],b:=4096 }
noncomputable def QEc (v:aA×Int):St:={ s:=[(0,(.val ⟨Z7,v.1⟩)),(5,(.val ⟨Z2,v.2⟩))],l:=[],k:=[],b:=4096 }
def fF (aG:aA×Int->Option (Bool)) (aH:aA×Int×Int->Option (Bool)) (v:aA×Int×Int):Option (Bool):=
 (bif (decide (v.2.2 < v.2.1)) then ((Nk v.1 v.2.2).bind fun x3=>((Nk v.1 v.2.1).bind fun x4=>(bif (JW .str x3.1 x4.1) then (some false) else (let x5:Int:=(IntKind.i64.wrap (v.2.2+1));(aH (v.1,v.2.1,x5)))))) else (let x6:Int:=(IntKind.i64.wrap (v.2.1+1));(aG (v.1,x6))))
def bV (N:Nat) (aG:aA×Int->Option (Bool)) (aH:aA×Int×Int->Option (Bool)) (v:aA×Int×Int):Option (Bool):=fF aG aH v
theorem QVN (N:Nat) (s0:St->Option (Bool)) (s1:St->Option (Bool)) (v):(ZR (Ez4) Tz4 6 N Tryz.f146 [.bool] [false] [] 1 (Yx s0 Xv)) s1 (QIr v)=bV N (fun v=>s0 (QEc v)) (fun v=>s1 (QIr v)) v:=by kernel_rfl
def bH (bF:aA×Int×Int->Option (Bool)) (aG:aA×Int->Option (Bool)) (v:aA×Int):Option (Bool):=
 (bif (decide (v.2 < (List.length v.1:Int))) then ((Nk v.1 v.2).bind fun x1=>((uF x1.1).bind fun x2=>(bif (!x2) then (some false) else (bF (v.1,v.2,(0:Int)))))) else (some true))
def bU (N:Nat) (aG:aA×Int->Option (Bool)) (v:aA×Int):Option (Bool):=bH (Gb (bV N aG) N) aG v
theorem QVM (N:Nat) (s0:St->Option (Bool)) (v):(ZR (Ez4) Tz4 6 N Tryz.f146 [.bool] [false] [] 0 Xv) s0 (QEc v)=bU N (fun v=>s0 (QEc v)) v:=Eq.trans (b:=bH (fun v=>Ot (ZR (Ez4) Tz4 6 N Tryz.f146 [.bool] [false] [] 1 (Yx s0 Xv)) N (QIr v)) (fun v=>s0 (QEc v)) v) (by kernel_rfl) (by rw [funext (Tf QIr (QVN N s0) N)];rfl)
def kN (aJ:aA×Int->Option (Bool)) (x:aA×Int):Option (Bool):=
 (bif (decide ((List.length x.1:Int) > x.2)) then (some false) else (aJ (x.1,(0:Int))))
def QAX (N:Nat) (x:aA×Int):Option (Bool):=kN (Gb (bU N) N) x
theorem lz4 (N:Nat) (x:aA×Int):rise (Ez4) Tz4 6 N Tryz.f146 [Z7,Z2] [.bool] [false] x=QAX N x:=Eq.trans (b:=kN (fun v=>Ot (ZR (Ez4) Tz4 6 N Tryz.f146 [.bool] [false] [] 0 Xv) N (QEc v)) x) (by kernel_rfl) (by rw [funext (Tf QEc (QVM N) N)];rfl)
def ng (x:aA×Int):Option (Bool):=QAX big x
def Gz4:U0:=⟨[Z7,Z2],[.bool],[false],fun x=>ng x⟩
theorem Lz4:Hw Tryz.prog 146 Gz4:=rz (E:=Ez4) ⟨aK,(YH Lz3 Yc),fun _ _ _=>rfl,mixed,Yt,Y0,Yz⟩ Tryz.func146 fun _ _ h=>(lz4 big _).trans h
def Tz5:LT:={ live:=[(14,[1,5,6])],keep:=[] }
noncomputable def Ez5:Bn:={ tab:=tab,fs:=[(146,Gz4)],inl:=[] }
noncomputable def QIs (v:Int×Int×Y12):St:={ s:=[(1,(.val ⟨Z2,v.1⟩)),(5,(.loc 0 [])),(6,(.val ⟨Z2,v.2.1⟩))],l:=[(0,.var Z1 (.val ⟨Z1,v.2.2⟩))],k:=[],b:=4096 }
def oD (aG:Int×Int×Y12->Option (Bool)) (v:Int×Int×Y12):Option (Bool):=
 (bif (decide (v.2.1 < (List.length v.2.2.2.2.2.1:Int))) then ((Nk v.2.2.2.2.2.1 v.2.1).bind fun x2=>(bif (decide (x2.2.1 < 0)) then (some false) else ((Nk v.2.2.2.2.2.1 v.2.1).bind fun x3=>(bif (decide (x3.2.1≥v.1)) then (some false) else (let x4:Int:=(IntKind.i64.wrap (v.2.1+1));(aG (v.1,x4,v.2.2))))))) else (bif (v.2.2.2.1==0) then (bif (v.2.2.2.2.1==0) then (bif (decide ((List.length v.2.2.2.2.2.1:Int) > 0)) then ((ng (v.2.2.2.2.2.1,(8:Int))).bind fun x5=>(some x5)) else (some false)) else (some false)) else (some false)))
def kC (N:Nat) (aG:Int×Int×Y12->Option (Bool)) (v:Int×Int×Y12):Option (Bool):=oD aG v
theorem QVO (N:Nat) (s0:St->Option (Bool)) (v):(ZR (Ez5) Tz5 6 N Tryz.f143 [.bool] [false] [] 0 Xv) s0 (QIs v)=kC N (fun v=>s0 (QIs v)) v:=by kernel_rfl
def wW (aJ:Int×Int×Y12->Option (Bool)) (x:zF):Option (Bool):=
 ((Nk x.1 x.2).bind fun x1=>(bif (x1.1==1) then (bif (x1.1==1) then (bif (x1.2.1==0) then (bif (x1.2.2.1==0) then (some ((List.length x1.2.2.2.1:Int)==0)) else (some false)) else (some false)) else (bif (x1.1==4) then (bif (x1.1==4) then (bif (decide (x1.2.1≥0)) then (bif (decide (x1.2.1 < (List.length x.1:Int))) then (bif (x1.2.2.1==0) then (some ((List.length x1.2.2.2.1:Int)==0)) else (some false)) else (some false)) else (some false)) else (bif (x1.1==6) then (bif (decide (x1.2.1≥0)) then (bif (decide (x1.2.1 < x.2)) then (bif (decide (x1.2.2.1≥1)) then (bif (decide (x1.2.2.1<=16)) then (some ((List.length x1.2.2.2.1:Int)==0)) else (some false)) else (some false)) else (some false)) else (some false)) else (bif (x1.1==5) then (aJ (x.2,(0:Int),x1)) else (some false)))) else (bif (x1.1==7) then (bif (decide (x1.2.1≥0)) then (bif (decide (x1.2.1 < (List.length x.1:Int))) then (bif (x1.2.2.1==0) then (some ((List.length x1.2.2.2.1:Int)==0)) else (some false)) else (some false)) else (some false)) else (bif (x1.1==6) then (bif (decide (x1.2.1≥0)) then (bif (decide (x1.2.1 < x.2)) then (bif (decide (x1.2.2.1≥1)) then (bif (decide (x1.2.2.1<=16)) then (some ((List.length x1.2.2.2.1:Int)==0)) else (some false)) else (some false)) else (some false)) else (some false)) else (bif (x1.1==5) then (aJ (x.2,(0:Int),x1)) else (some false)))))) else (bif (x1.1==2) then (bif (x1.1==2) then (bif (x1.2.1==0) then (bif (x1.2.2.1==0) then (some ((List.length x1.2.2.2.1:Int)==0)) else (some false)) else (some false)) else (bif (x1.1==4) then (bif (x1.1==4) then (bif (decide (x1.2.1≥0)) then (bif (decide (x1.2.1 < (List.length x.1:Int))) then (bif (x1.2.2.1==0) then (some ((List.length x1.2.2.2.1:Int)==0)) else (some false)) else (some false)) else (some false)) else (bif (x1.1==6) then (bif (decide (x1.2.1≥0)) then (bif (decide (x1.2.1 < x.2)) then (bif (decide (x1.2.2.1≥1)) then (bif (decide (x1.2.2.1<=16)) then (some ((List.length x1.2.2.2.1:Int)==0)) else (some false)) else (some false)) else (some false)) else (some false)) else (bif (x1.1==5) then (aJ (x.2,(0:Int),x1)) else (some false)))) else (bif (x1.1==7) then (bif (decide (x1.2.1≥0)) then (bif (decide (x1.2.1 < (List.length x.1:Int))) then (bif (x1.2.2.1==0) then (some ((List.length x1.2.2.2.1:Int)==0)) else (some false)) else (some false)) else (some false)) else (bif (x1.1==6) then (bif (decide (x1.2.1≥0)) then (bif (decide (x1.2.1 < x.2)) then (bif (decide (x1.2.2.1≥1)) then (bif (decide (x1.2.2.1<=16)) then (some ((List.length x1.2.2.2.1:Int)==0)) else (some false)) else (some false)) else (some false)) else (some false)) else (bif (x1.1==5) then (aJ (x.2,(0:Int),x1)) else (some false)))))) else (bif (x1.1==3) then (bif (x1.2.1==0) then (bif (x1.2.2.1==0) then (some ((List.length x1.2.2.2.1:Int)==0)) else (some false)) else (some false)) else (bif (x1.1==4) then (bif (x1.1==4) then (bif (decide (x1.2.1≥0)) then (bif (decide (x1.2.1 < (List.length x.1:Int))) then (bif (x1.2.2.1==0) then (some ((List.length x1.2.2.2.1:Int)==0)) else (some false)) else (some false)) else (some false)) else (bif (x1.1==6) then (bif (decide (x1.2.1≥0)) then (bif (decide (x1.2.1 < x.2)) then (bif (decide (x1.2.2.1≥1)) then (bif (decide (x1.2.2.1<=16)) then (some ((List.length x1.2.2.2.1:Int)==0)) else (some false)) else (some false)) else (some false)) else (some false)) else (bif (x1.1==5) then (aJ (x.2,(0:Int),x1)) else (some false)))) else (bif (x1.1==7) then (bif (decide (x1.2.1≥0)) then (bif (decide (x1.2.1 < (List.length x.1:Int))) then (bif (x1.2.2.1==0) then (some ((List.length x1.2.2.2.1:Int)==0)) else (some false)) else (some false)) else (some false)) else (bif (x1.1==6) then (bif (decide (x1.2.1≥0)) then (bif (decide (x1.2.1 < x.2)) then (bif (decide (x1.2.2.1≥1)) then (bif (decide (x1.2.2.1<=16)) then (some ((List.length x1.2.2.2.1:Int)==0)) else (some false)) else (some false)) else (some false)) else (some false)) else (bif (x1.1==5) then (aJ (x.2,(0:Int),x1)) else (some false)))))))))
def QCR (N:Nat) (x:zF):Option (Bool):=wW (Gb (kC N) N) x
theorem lz5 (N:Nat) (x:zF):rise (Ez5) Tz5 6 N Tryz.f143 [qj,Z2] [.bool] [false] x=QCR N x:=Eq.trans (b:=wW (fun v=>Ot (ZR (Ez5) Tz5 6 N Tryz.f143 [.bool] [false] [] 0 Xv) N (QIs v)) x) (by kernel_rfl) (by rw [funext (Tf QIs (QVO N) N)];rfl)
def zf (x:zF):Option (Bool):=QCR big x
def Gz5:U0:=⟨[qj,Z2],[.bool],[false],fun x=>zf x⟩
theorem Lz5:Hw Tryz.prog 143 Gz5:=rz (E:=Ez5) ⟨aK,(YH Lz4 Yc),fun _ _ _=>rfl,mixed,Yt,Y0,Yz⟩ Tryz.func143 fun _ _ h=>(lz5 big _).trans h
def Tz6:LT:={ live:=[(5,[1,3,4])],keep:=[] }
noncomputable def Ez6:Bn:={ tab:=tab,fs:=[],inl:=[] }
noncomputable def QIt (v:Int×Y12×Zw):St:={ s:=[(1,(.loc 0 [])),(3,(.row 1)),(4,(.val ⟨Z2,v.1⟩))],l:=[(0,.var Z1 (.val ⟨Z1,v.2.1⟩)),(1,.row Z2 v.2.2)],k:=[],b:=4096 }
def mH (aG:Int×Y12×Zw->Option (Zw)) (v:Int×Y12×Zw):Option (Zw):=
 (bif (decide (v.1 < (List.length v.2.1.2.2.2.1:Int))) then ((Nk v.2.1.2.2.2.1 v.1).bind fun x2=>(bif (Nat.ble 1 1&&Nat.ble (List.length v.2.2+List.length ([x2.2.1]:Zw)) lim) then (let x3:Zw:=(List.append v.2.2 ([x2.2.1]:Zw));(let x4:Int:=(IntKind.i64.wrap (v.1+1));(aG (x4,v.2.1,x3)))) else none)) else (some v.2.2))
def lg (N:Nat) (aG:Int×Y12×Zw->Option (Zw)) (v:Int×Y12×Zw):Option (Zw):=mH aG v
theorem QVP (N:Nat) (s0:St->Option (Zw)) (v):(ZR (Ez6) Tz6 6 N Tryz.f175 [Z6] [true] [] 0 Xv) s0 (QIt v)=lg N (fun v=>s0 (QIt v)) v:=by kernel_rfl
def uY (aJ:Int×Y12×Zw->Option (Zw)) (x:Y12):Option (Zw):=
 (bif (x.1==6) then (bif (Nat.ble 1 1&&Nat.ble (List.length ([]:List Int)+List.length ([x.2.1]:Zw)) lim) then (let x1:Zw:=(List.append ([]:List Int) ([x.2.1]:Zw));(aJ ((0:Int),x,x1))) else none) else (aJ ((0:Int),x,([]:List Int))))
def QBP (N:Nat) (x:Y12):Option (Zw):=uY (Gb (lg N) N) x
theorem lz6 (N:Nat) (x:Y12):rise (Ez6) Tz6 6 N Tryz.f175 [Z1] [Z6] [true] x=QBP N x:=Eq.trans (b:=uY (fun v=>Ot (ZR (Ez6) Tz6 6 N Tryz.f175 [Z6] [true] [] 0 Xv) N (QIt v)) x) (by kernel_rfl) (by rw [funext (Tf QIt (QVP N) N)];rfl)
def uG (x:Y12):Option (Zw):=QBP big x
def Gz6:U0:=⟨[Z1],[Z6],[true],fun x=>uG x⟩
theorem Lz6:Hw Tryz.prog 175 Gz6:=rz (E:=Ez6) ⟨aK,Yc,fun _ _ _=>rfl,mixed,Yt,Y0,Yz⟩ Tryz.func175 fun _ _ h=>(lz6 big _).trans h
def Tz7:LT:={ live:=[(6,[0,1,5,6,7]),(10,[0,1,5,6,7,8,9,10])],keep:=[] }
noncomputable def Ez7 (me:zF->Option (Zw)):Bn:={ tab:=tab,fs:=[(175,Gz6),(144,⟨[qj,Z2],[Z6],[true],fun x=>me x⟩)],inl:=[] }
noncomputable def QIu (v:Y31):St:={ s:=[(0,(.val ⟨qj,v.1⟩)),(1,(.val ⟨Z2,v.2.1⟩)),(5,(.row 0)),(6,(.row 1)),(7,(.val ⟨Z2,v.2.2.1⟩)),(8,(.val ⟨Z2,v.2.2.2.1⟩)),(9,(.row 2)),(10,(.val ⟨Z2,v.2.2.2.2.1⟩))],l:=[(0,.row Z2 v.2.2.2.2.2.1),(1,.row Z2 v.2.2.2.2.2.2.1),(2,.row Z2 v.2.2.2.2.2.2.2)],k:=[],b:=4096 }
noncomputable def QEd (v:Y53):St:={ s:=[(0,(.val ⟨qj,v.1⟩)),(1,(.val ⟨Z2,v.2.1⟩)),(5,(.row 0)),(6,(.row 1)),(7,(.val ⟨Z2,v.2.2.1⟩))],l:=[(0,.row Z2 v.2.2.2.1),(1,.row Z2 v.2.2.2.2)],k:=[],b:=4096 }
def jy (me:zF->Option (Zw)) (aG:Y53->Option (Zw)) (aH:Y31->Option (Zw)) (v:Y31):Option (Zw):=
 (bif (decide (v.2.2.2.2.1 < (List.length v.2.2.2.2.2.2.2:Int))) then ((Nk v.1 v.2.2.1).bind fun x5=>(bif (x5.1==6) then ((Nk v.1 v.2.2.1).bind fun x6=>(bif (decide (0<=v.2.2.2.2.1)&&decide (v.2.2.2.2.1 < (List.length v.2.2.2.2.2.2.2:Int))) then ((nth v.2.2.2.2.2.2.2 (Int.toNat v.2.2.2.2.1)).bind fun x7=>(bif (decide (0<=x7)&&decide (x7 < (List.length v.2.2.2.2.2.2.1:Int))) then ((nth v.2.2.2.2.2.2.1 (Int.toNat x7)).bind fun x8=>(let x9:Int:=(IntKind.i64.wrap (x6.2.2.1 * x8));(let iO:Int:=(IntKind.i64.wrap (v.2.2.2.1+x9));(let pE:Int:=(if (5001:Int) < iO then (5001:Int) else iO);(let qh:Int:=(IntKind.i64.wrap (v.2.2.2.2.1+1));(aH (v.1,v.2.1,v.2.2.1,pE,qh,v.2.2.2.2.2.1,v.2.2.2.2.2.2.1,v.2.2.2.2.2.2.2))))))) else none)) else none)) else (bif (decide (0<=v.2.2.2.2.1)&&decide (v.2.2.2.2.1 < (List.length v.2.2.2.2.2.2.2:Int))) then ((nth v.2.2.2.2.2.2.2 (Int.toNat v.2.2.2.2.1)).bind fun sQ=>(bif (decide (0<=sQ)&&decide (sQ < (List.length v.2.2.2.2.2.2.1:Int))) then ((nth v.2.2.2.2.2.2.1 (Int.toNat sQ)).bind fun lN=>(let lS:Int:=(IntKind.i64.wrap ((1:Int) * lN));(let xq:Int:=(IntKind.i64.wrap (v.2.2.2.1+lS));(let zS:Int:=(if (5001:Int) < xq then (5001:Int) else xq);(let x18:Int:=(IntKind.i64.wrap (v.2.2.2.2.1+1));(aH (v.1,v.2.1,v.2.2.1,zS,x18,v.2.2.2.2.2.1,v.2.2.2.2.2.2.1,v.2.2.2.2.2.2.2))))))) else none)) else none))) else (bif (decide (v.2.1 > 0)) then ((Nk v.1 v.2.2.1).bind fun zU=>(bif (zU.1==4) then ((Nk v.1 v.2.2.1).bind fun x20=>(bif (decide (0<=x20.2.1)&&decide (x20.2.1 < (List.length v.2.2.2.2.2.1:Int))) then ((nth v.2.2.2.2.2.1 (Int.toNat x20.2.1)).bind fun x21=>(let zV:Int:=(IntKind.i64.wrap (v.2.2.2.1+x21));(let x23:Int:=(if (5001:Int) < zV then (5001:Int) else zV);(bif (decide (v.2.1 > 0)) then ((Nk v.1 v.2.2.1).bind fun x24=>(bif (x24.1==7) then ((Nk v.1 v.2.2.1).bind fun x25=>(bif (decide (0<=x25.2.1)&&decide (x25.2.1 < (List.length v.2.2.2.2.2.1:Int))) then ((nth v.2.2.2.2.2.1 (Int.toNat x25.2.1)).bind fun x26=>(let x27:Int:=(IntKind.i64.wrap ((16:Int) * x26));(let x28:Int:=(IntKind.i64.wrap (x23+x27));(let x29:Int:=(if (5001:Int) < x28 then (5001:Int) else x28);(bif (Nat.ble 1 1&&Nat.ble (List.length v.2.2.2.2.2.2.1+List.length ([x29]:Zw)) lim) then (let x30:Zw:=(List.append v.2.2.2.2.2.2.1 ([x29]:Zw));(let x31:Int:=(IntKind.i64.wrap (v.2.2.1+1));(aG (v.1,v.2.1,x31,v.2.2.2.2.2.1,x30)))) else none))))) else none)) else (bif (Nat.ble 1 1&&Nat.ble (List.length v.2.2.2.2.2.2.1+List.length ([x23]:Zw)) lim) then (let x32:Zw:=(List.append v.2.2.2.2.2.2.1 ([x23]:Zw));(let x33:Int:=(IntKind.i64.wrap (v.2.2.1+1));(aG (v.1,v.2.1,x33,v.2.2.2.2.2.1,x32)))) else none))) else (bif (Nat.ble 1 1&&Nat.ble (List.length v.2.2.2.2.2.2.1+List.length ([x23]:Zw)) lim) then (let x34:Zw:=(List.append v.2.2.2.2.2.2.1 ([x23]:Zw));(let x35:Int:=(IntKind.i64.wrap (v.2.2.1+1));(aG (v.1,v.2.1,x35,v.2.2.2.2.2.1,x34)))) else none))))) else none)) else (bif (decide (v.2.1 > 0)) then ((Nk v.1 v.2.2.1).bind fun x36=>(bif (x36.1==7) then ((Nk v.1 v.2.2.1).bind fun x37=>(bif (decide (0<=x37.2.1)&&decide (x37.2.1 < (List.length v.2.2.2.2.2.1:Int))) then ((nth v.2.2.2.2.2.1 (Int.toNat x37.2.1)).bind fun x38=>(let x39:Int:=(IntKind.i64.wrap ((16:Int) * x38));(let x40:Int:=(IntKind.i64.wrap (v.2.2.2.1+x39));(let x41:Int:=(if (5001:Int) < x40 then (5001:Int) else x40);(bif (Nat.ble 1 1&&Nat.ble (List.length v.2.2.2.2.2.2.1+List.length ([x41]:Zw)) lim) then (let x42:Zw:=(List.append v.2.2.2.2.2.2.1 ([x41]:Zw));(let x43:Int:=(IntKind.i64.wrap (v.2.2.1+1));(aG (v.1,v.2.1,x43,v.2.2.2.2.2.1,x42)))) else none))))) else none)) else (let x44:Zw:=([v.2.2.2.1]:Zw);(bif (Nat.ble 1 1&&Nat.ble (List.length v.2.2.2.2.2.2.1+List.length x44) lim) then (let x45:Zw:=(List.append v.2.2.2.2.2.2.1 x44);(let x46:Int:=(IntKind.i64.wrap (v.2.2.1+1));(aG (v.1,v.2.1,x46,v.2.2.2.2.2.1,x45)))) else none)))) else (let x47:Zw:=([v.2.2.2.1]:Zw);(bif (Nat.ble 1 1&&Nat.ble (List.length v.2.2.2.2.2.2.1+List.length x47) lim) then (let x48:Zw:=(List.append v.2.2.2.2.2.2.1 x47);(let x49:Int:=(IntKind.i64.wrap (v.2.2.1+1));(aG (v.1,v.2.1,x49,v.2.2.2.2.2.1,x48)))) else none))))) else (bif (decide (v.2.1 > 0)) then ((Nk v.1 v.2.2.1).bind fun x50=>(bif (x50.1==7) then ((Nk v.1 v.2.2.1).bind fun x51=>(bif (decide (0<=x51.2.1)&&decide (x51.2.1 < (List.length v.2.2.2.2.2.1:Int))) then ((nth v.2.2.2.2.2.1 (Int.toNat x51.2.1)).bind fun x52=>(let x53:Int:=(IntKind.i64.wrap ((16:Int) * x52));(let x54:Int:=(IntKind.i64.wrap (v.2.2.2.1+x53));(let x55:Int:=(if (5001:Int) < x54 then (5001:Int) else x54);(bif (Nat.ble 1 1&&Nat.ble (List.length v.2.2.2.2.2.2.1+List.length ([x55]:Zw)) lim) then (let x56:Zw:=(List.append v.2.2.2.2.2.2.1 ([x55]:Zw));(let x57:Int:=(IntKind.i64.wrap (v.2.2.1+1));(aG (v.1,v.2.1,x57,v.2.2.2.2.2.1,x56)))) else none))))) else none)) else (let x58:Zw:=([v.2.2.2.1]:Zw);(bif (Nat.ble 1 1&&Nat.ble (List.length v.2.2.2.2.2.2.1+List.length x58) lim) then (let x59:Zw:=(List.append v.2.2.2.2.2.2.1 x58);(let x60:Int:=(IntKind.i64.wrap (v.2.2.1+1));(aG (v.1,v.2.1,x60,v.2.2.2.2.2.1,x59)))) else none)))) else (let x61:Zw:=([v.2.2.2.1]:Zw);(bif (Nat.ble 1 1&&Nat.ble (List.length v.2.2.2.2.2.2.1+List.length x61) lim) then (let x62:Zw:=(List.append v.2.2.2.2.2.2.1 x61);(let x63:Int:=(IntKind.i64.wrap (v.2.2.1+1));(aG (v.1,v.2.1,x63,v.2.2.2.2.2.1,x62)))) else none)))))
def tH (me:zF->Option (Zw)) (N:Nat) (aG:Y53->Option (Zw)) (aH:Y31->Option (Zw)) (v:Y31):Option (Zw):=jy me aG aH v
theorem QVR (me:zF->Option (Zw)) (N:Nat) (s0:St->Option (Zw)) (s1:St->Option (Zw)) (v):(ZR (Ez7 me) Tz7 6 N Tryz.f144 [Z6] [true] [] 1 (Yx s0 Xv)) s1 (QIu v)=tH me N (fun v=>s0 (QEd v)) (fun v=>s1 (QIu v)) v:=by kernel_rfl
def gT (me:zF->Option (Zw)) (bF:Y31->Option (Zw)) (aG:Y53->Option (Zw)) (v:Y53):Option (Zw):=
 (bif (decide (v.2.2.1 < (List.length v.1:Int))) then ((Nk v.1 v.2.2.1).bind fun x3=>((uG x3).bind fun x4=>(bF (v.1,v.2.1,v.2.2.1,(1:Int),(0:Int),v.2.2.2.1,v.2.2.2.2,x4)))) else (some v.2.2.2.2))
def jw (me:zF->Option (Zw)) (N:Nat) (aG:Y53->Option (Zw)) (v:Y53):Option (Zw):=gT me (Gb (tH me N aG) N) aG v
theorem QVQ (me:zF->Option (Zw)) (N:Nat) (s0:St->Option (Zw)) (v):(ZR (Ez7 me) Tz7 6 N Tryz.f144 [Z6] [true] [] 0 Xv) s0 (QEd v)=jw me N (fun v=>s0 (QEd v)) v:=Eq.trans (b:=gT me (fun v=>Ot (ZR (Ez7 me) Tz7 6 N Tryz.f144 [Z6] [true] [] 1 (Yx s0 Xv)) N (QIu v)) (fun v=>s0 (QEd v)) v) (by kernel_rfl) (by rw [funext (Tf QIu (QVR me N s0) N)];rfl)
def oG (me:zF->Option (Zw)) (aJ:Y53->Option (Zw)) (x:zF):Option (Zw):=
 (bif (decide (x.2 > 0)) then (let x1:Int:=(IntKind.i64.wrap (x.2 - 1));((me (x.1,x1)).bind fun x2=>(aJ (x.1,x.2,(0:Int),x2,([]:List Int))))) else (aJ (x.1,x.2,(0:Int),([]:List Int),([]:List Int))))
def QAY (me:zF->Option (Zw)) (N:Nat) (x:zF):Option (Zw):=oG me (Gb (jw me N) N) x
theorem lz7 (me:zF->Option (Zw)) (N:Nat) (x:zF):rise (Ez7 me) Tz7 6 N Tryz.f144 [qj,Z2] [Z6] [true] x=QAY me N x:=Eq.trans (b:=oG me (fun v=>Ot (ZR (Ez7 me) Tz7 6 N Tryz.f144 [Z6] [true] [] 0 Xv) N (QEd v)) x) (by kernel_rfl) (by rw [funext (Tf QEd (QVQ me N) N)];rfl)
def dx:Nat->Zv×Int->Option (Zw)
 | 0,_=>none
 | k+1,x=>QAY (dx k) big x
def xE (x:zF):Option (Zw):=dx big x
def Gz7:U0:=⟨[qj,Z2],[Z6],[true],fun x=>xE x⟩
theorem Rz7:∀ k,Hw Tryz.prog 144 ⟨[qj,Z2],[Z6],[true],fun x=>dx k x⟩
 | 0=>Wp Tryz.func144 rfl (by decide) (by kernel_rfl) (by kernel_rfl)
 | k+1=>by
  have ih:=Rz7 k
  exact UQ (E:=Ez7 (dx k)) ⟨aK,(YH Lz6 (YH ih Yc)),fun _ _ _=>rfl,mixed,Yt,Y0,Yz⟩ Tryz.func144 rfl (by decide) (by kernel_rfl) (by kernel_rfl) (by kernel_rfl) (by kernel_rfl) (fun x r _ h=>⟨Tz7,6,big,(lz7 (dx k) big x).trans h⟩)
theorem Lz7:Hw Tryz.prog 144 Gz7:=Rz7 big
def Tz8:LT:={ live:=[(4,[0,3]),(10,[0,4,5])],keep:=[] }
noncomputable def Ez8:Bn:={ tab:=tab,fs:=[(143,Gz5),(144,Gz7)],inl:=[] }
noncomputable def QIv (v:Y74):St:={ s:=[(0,(.val ⟨qj,v.1⟩)),(4,(.row 0)),(5,(.val ⟨Z2,v.2.1⟩))],l:=[(0,.row Z2 v.2.2)],k:=[],b:=4096 }
noncomputable def QEe (v:zF):St:={ s:=[(0,(.val ⟨qj,v.1⟩)),(3,(.val ⟨Z2,v.2⟩))],l:=[],k:=[],b:=4096 }
def mE (aG:zF->Option (Int)) (aH:Y74->Option (Int)) (v:Y74):Option (Int):=
 (bif (decide (v.2.1 < (List.length v.1:Int))) then (bif (decide (0<=v.2.1)&&decide (v.2.1 < (List.length v.2.2:Int))) then ((nth v.2.2 (Int.toNat v.2.1)).bind fun x4=>(bif (decide (x4 > 5000)) then (some (8:Int)) else (let x5:Int:=(IntKind.i64.wrap (v.2.1+1));(aH (v.1,x5,v.2.2))))) else none) else (some (0:Int)))
def qB (N:Nat) (aG:zF->Option (Int)) (aH:Y74->Option (Int)) (v:Y74):Option (Int):=mE aG aH v
theorem QVT (N:Nat) (s0:St->Option (Int)) (s1:St->Option (Int)) (v):(ZR (Ez8) Tz8 6 N Tryz.f112 [Z2] [false] [] 1 Xv) s1 (QIv v)=qB N (fun v=>s0 (QEe v)) (fun v=>s1 (QIv v)) v:=by kernel_rfl
def jP (bF:Y74->Option (Int)) (aG:zF->Option (Int)) (v:zF):Option (Int):=
 (bif (decide (v.2 < (List.length v.1:Int))) then ((zf (v.1,v.2)).bind fun x1=>(bif (!x1) then (some (8:Int)) else (let x2:Int:=(IntKind.i64.wrap (v.2+1));(aG (v.1,x2))))) else ((xE (v.1,(3:Int))).bind fun x3=>(bF (v.1,(0:Int),x3))))
def lY (N:Nat) (aG:zF->Option (Int)) (v:zF):Option (Int):=jP (Gb (qB N aG) N) aG v
theorem QVS (N:Nat) (s0:St->Option (Int)) (v):(ZR (Ez8) Tz8 6 N Tryz.f112 [Z2] [false] [] 0 Xv) s0 (QEe v)=lY N (fun v=>s0 (QEe v)) v:=Eq.trans (b:=jP (fun v=>Ot (ZR (Ez8) Tz8 6 N Tryz.f112 [Z2] [false] [] 1 Xv) N (QIv v)) (fun v=>s0 (QEe v)) v) (by kernel_rfl) (by rw [funext (Tf QIv (QVT N s0) N)];rfl)
def uV (aJ:zF->Option (Int)) (x:Zv):Option (Int):=
 (bif (decide ((List.length x:Int) > 32)) then (some (8:Int)) else (aJ (x,(0:Int))))
def QBM (N:Nat) (x:Zv):Option (Int):=uV (Gb (lY N) N) x
theorem lz8 (N:Nat) (x:Zv):rise (Ez8) Tz8 6 N Tryz.f112 [qj] [Z2] [false] x=QBM N x:=Eq.trans (b:=uV (fun v=>Ot (ZR (Ez8) Tz8 6 N Tryz.f112 [Z2] [false] [] 0 Xv) N (QEe v)) x) (by kernel_rfl) (by rw [funext (Tf QEe (QVS N) N)];rfl)
def yX (x:Zv):Option (Int):=QBM big x
def Gz8:U0:=⟨[qj],[Z2],[false],fun x=>yX x⟩
theorem Lz8:Hw Tryz.prog 112 Gz8:=rz (E:=Ez8) ⟨aK,(YH Lz5 (YH Lz7 Yc)),fun _ _ _=>rfl,mixed,Yt,Y0,Yz⟩ Tryz.func112 fun _ _ h=>(lz8 big _).trans h
def Tz9:LT:={ live:=[],keep:=[] }
noncomputable def Ez9:Bn:={ tab:=tab,fs:=[],inl:=[] }
def QC8 (x:Y78):Option (Int):=
 (let x1:Int:=(IntKind.i64.wrap (x.1+x.2));(let x2:Int:=(IntKind.i64.wrap (x1 - 1));(bif (x.2==0) then none else (let x3:Int:=(IntKind.i64.wrap (x2.tdiv x.2));(let x4:Int:=(IntKind.i64.wrap (x3 * x.2));(some x4))))))
def yC (x:Y78):Option (Int):=QC8 x
def Gz9:U0:=⟨[Z2,Z2],[Z2],[false],fun x=>yC x⟩
theorem Lz9:Hw Tryz.prog 116 Gz9:=rz (E:=Ez9) (lt:=Tz9) (lv:=6) (N:=big) ⟨aK,Yc,fun _ _ _=>rfl,mixed,Yt,Y0,Yz⟩ Tryz.func116 fun x _ h=>Eq.trans (b:=yC x) (by kernel_rfl) h
def QPv:LT:={ live:=[(4,[0,1,2,9,10,11,12])],keep:=[] }
noncomputable def QMK:Bn:={ tab:=tab,fs:=[(116,Gz9)],inl:=[] }
noncomputable def QF9 (v:Y36):St:={ s:=[(0,(.val ⟨Z6,v.1⟩)),(1,(.val ⟨Z6,v.2.1⟩)),(2,(.val ⟨Z7,v.2.2.1⟩)),(9,(.row 0)),(10,(.val ⟨Z2,v.2.2.2.1⟩)),(11,(.val ⟨Z2,v.2.2.2.2.1⟩)),(12,(.val ⟨Z2,v.2.2.2.2.2.1⟩))],l:=[(0,.row Z2 v.2.2.2.2.2.2)],k:=[],b:=4096 }
def iD (aG:Y36->Option Y21) (v:Y36):Option Y21:=
 (bif (decide (v.2.2.2.2.2.1 < (List.length v.2.2.1:Int))) then ((Nk v.2.2.1 v.2.2.2.2.2.1).bind fun x1=>((Nk v.2.1 x1.2.1).bind fun x2=>((yC (v.2.2.2.1,x2)).bind fun x3=>(bif (Nat.ble 1 1&&Nat.ble (List.length v.2.2.2.2.2.2+List.length ([x3]:Zw)) lim) then (let x4:Zw:=(List.append v.2.2.2.2.2.2 ([x3]:Zw));((Nk v.1 x1.2.1).bind fun x5=>(let x6:Int:=(IntKind.i64.wrap (x3+x5));(let x7:Int:=(if x6 < 1000000 then x6 else (1000000:Int));((Nk v.2.1 x1.2.1).bind fun x8=>(let x9:Int:=(if x8 > v.2.2.2.2.1 then x8 else v.2.2.2.2.1);(let iO:Int:=(IntKind.i64.wrap (v.2.2.2.2.2.1+1));(aG (v.1,v.2.1,v.2.2.1,x7,x9,iO,x4))))))))) else none)))) else ((yC (v.2.2.2.1,v.2.2.2.2.1)).bind fun pE=>(let qh:Int:=(if pE < 1000000 then pE else (1000000:Int));(some (v.2.2.2.2.2.2,qh,v.2.2.2.2.1)))))
def kg (N:Nat) (aG:Y36->Option Y21) (v:Y36):Option Y21:=iD aG v
theorem QQL (N:Nat) (s0:St->Option Y21) (v):(ZR (QMK) QPv 6 N Tryz.f115 [Z6,Z2,Z2] [true,false,false] [] 0 Xv) s0 (QF9 v)=kg N (fun v=>s0 (QF9 v)) v:=by kernel_rfl
def oU (aJ:Y36->Option Y21) (x:Zw×Zw×aA):Option Y21:=
 (aJ (x.1,x.2.1,x.2.2,(0:Int),(1:Int),(0:Int),([]:List Int)))
def zO (N:Nat) (x:Zw×Zw×aA):Option Y21:=oU (Gb (kg N) N) x
theorem QYx (N:Nat) (x:Zw×Zw×aA):rise (QMK) QPv 6 N Tryz.f115 [Z6,Z6,Z7] [Z6,Z2,Z2] [true,false,false] x=zO N x:=Eq.trans (b:=oU (fun v=>Ot (ZR (QMK) QPv 6 N Tryz.f115 [Z6,Z2,Z2] [true,false,false] [] 0 Xv) N (QF9 v)) x) (by kernel_rfl) (by rw [funext (Tf QF9 (QQL N) N)];rfl)
def tC (x:Zw×Zw×aA):Option Y21:=zO big x
def QSc:U0:=⟨[Z6,Z6,Z7],[Z6,Z2,Z2],[true,false,false],fun x=>tC x⟩
theorem QXA:Hw Tryz.prog 115 QSc:=rz (E:=QMK) ⟨aK,(YH Lz9 Yc),fun _ _ _=>rfl,mixed,Yt,Y0,Yz⟩ Tryz.func115 fun _ _ h=>(QYx big _).trans h
def QPw:LT:={ live:=[(3,[0,4,5,6])],keep:=[] }
noncomputable def QML:Bn:={ tab:=tab,fs:=[(115,QSc)],inl:=[] }
noncomputable def QFA (v:Zv×Int×Zw×Zw):St:={ s:=[(0,(.val ⟨qj,v.1⟩)),(4,(.row 0)),(5,(.row 1)),(6,(.val ⟨Z2,v.2.1⟩))],l:=[(0,.row Z2 v.2.2.1),(1,.row Z2 v.2.2.2)],k:=[],b:=4096 }
def mI (aG:Zv×Int×Zw×Zw->Option (Zw×Zw)) (v:Zv×Int×Zw×Zw):Option (Zw×Zw):=
 (bif (decide (v.2.1 < (List.length v.1:Int))) then ((Nk v.1 v.2.1).bind fun x1=>(bif (x1.1==1) then (let x2:Zw:=([(1:Int)]:Zw);(bif (Nat.ble 1 1&&Nat.ble (List.length v.2.2.1+List.length x2) lim) then (let x3:Zw:=([(1:Int)]:Zw);(bif (Nat.ble 1 1&&Nat.ble (List.length v.2.2.2+List.length x3) lim) then (let x4:Int:=(IntKind.i64.wrap (v.2.1+1));(aG (v.1,x4,(List.append v.2.2.1 x2),(List.append v.2.2.2 x3)))) else none)) else none)) else (bif (x1.1==3) then (let x5:Zw:=([(16:Int)]:Zw);(bif (Nat.ble 1 1&&Nat.ble (List.length v.2.2.1+List.length x5) lim) then (let x6:Zw:=([(8:Int)]:Zw);(bif (Nat.ble 1 1&&Nat.ble (List.length v.2.2.2+List.length x6) lim) then (let x7:Int:=(IntKind.i64.wrap (v.2.1+1));(aG (v.1,x7,(List.append v.2.2.1 x5),(List.append v.2.2.2 x6)))) else none)) else none)) else (bif (x1.1==7) then (let x8:Zw:=([(24:Int)]:Zw);(bif (Nat.ble 1 1&&Nat.ble (List.length v.2.2.1+List.length x8) lim) then (let x9:Zw:=([(8:Int)]:Zw);(bif (Nat.ble 1 1&&Nat.ble (List.length v.2.2.2+List.length x9) lim) then (let iO:Int:=(IntKind.i64.wrap (v.2.1+1));(aG (v.1,iO,(List.append v.2.2.1 x8),(List.append v.2.2.2 x9)))) else none)) else none)) else (bif (x1.1==6) then ((Nk v.1 v.2.1).bind fun pE=>((Nk v.1 v.2.1).bind fun qh=>(bif (decide (0<=qh.2.1)&&decide (qh.2.1 < (List.length v.2.2.1:Int))) then ((nth v.2.2.1 (Int.toNat qh.2.1)).bind fun sQ=>(let lN:Int:=(IntKind.i64.wrap (pE.2.2.1 * sQ));(let lS:Int:=(if lN < 1000000 then lN else (1000000:Int));((Nk v.1 v.2.1).bind fun xq=>(bif (decide (0<=xq.2.1)&&decide (xq.2.1 < (List.length v.2.2.2:Int))) then ((nth v.2.2.2 (Int.toNat xq.2.1)).bind fun zS=>(bif (Nat.ble 1 1&&Nat.ble (List.length v.2.2.1+List.length ([lS]:Zw)) lim) then (let x18:Zw:=(List.append v.2.2.1 ([lS]:Zw));(bif (Nat.ble 1 1&&Nat.ble (List.length v.2.2.2+List.length ([zS]:Zw)) lim) then (let zU:Zw:=(List.append v.2.2.2 ([zS]:Zw));(let x20:Int:=(IntKind.i64.wrap (v.2.1+1));(aG (v.1,x20,x18,zU)))) else none)) else none)) else none))))) else none))) else (bif (x1.1==5) then ((Nk v.1 v.2.1).bind fun x21=>((tC (v.2.2.1,v.2.2.2,x21.2.2.2.1)).bind fun zV=>(bif (Nat.ble 1 1&&Nat.ble (List.length v.2.2.1+List.length ([zV.2.1]:Zw)) lim) then (let x23:Zw:=(List.append v.2.2.1 ([zV.2.1]:Zw));(bif (Nat.ble 1 1&&Nat.ble (List.length v.2.2.2+List.length ([zV.2.2]:Zw)) lim) then (let x24:Zw:=(List.append v.2.2.2 ([zV.2.2]:Zw));(let x25:Int:=(IntKind.i64.wrap (v.2.1+1));(aG (v.1,x25,x23,x24)))) else none)) else none))) else (let x26:Zw:=([(8:Int)]:Zw);(bif (Nat.ble 1 1&&Nat.ble (List.length v.2.2.1+List.length x26) lim) then (let x27:Zw:=(List.append v.2.2.1 x26);(let x28:Zw:=([(8:Int)]:Zw);(bif (Nat.ble 1 1&&Nat.ble (List.length v.2.2.2+List.length x28) lim) then (let x29:Zw:=(List.append v.2.2.2 x28);(let x30:Int:=(IntKind.i64.wrap (v.2.1+1));(aG (v.1,x30,x27,x29)))) else none))) else none)))))))) else (some (v.2.2.1,v.2.2.2)))
def qD (N:Nat) (aG:Zv×Int×Zw×Zw->Option (Zw×Zw)) (v:Zv×Int×Zw×Zw):Option (Zw×Zw):=mI aG v
theorem QQM (N:Nat) (s0:St->Option (Zw×Zw)) (v):(ZR (QML) QPw 6 N Tryz.f68 [Z6,Z6] [true,false] [] 0 Xv) s0 (QFA v)=qD N (fun v=>s0 (QFA v)) v:=by kernel_rfl
def uZ (aJ:Zv×Int×Zw×Zw->Option (Zw×Zw)) (x:Zv):Option (Zw×Zw):=
 (aJ (x,(0:Int),([]:List Int),([]:List Int)))
def QBQ (N:Nat) (x:Zv):Option (Zw×Zw):=uZ (Gb (qD N) N) x
theorem QYy (N:Nat) (x:Zv):rise (QML) QPw 6 N Tryz.f68 [qj] [Z6,Z6] [true,false] x=QBQ N x:=Eq.trans (b:=uZ (fun v=>Ot (ZR (QML) QPw 6 N Tryz.f68 [Z6,Z6] [true,false] [] 0 Xv) N (QFA v)) x) (by kernel_rfl) (by rw [funext (Tf QFA (QQM N) N)];rfl)
def yZ (x:Zv):Option (Zw×Zw):=QBQ big x
def QSd:U0:=⟨[qj],[Z6,Z6],[true,false],fun x=>yZ x⟩
theorem QXB:Hw Tryz.prog 68 QSd:=rz (E:=QML) ⟨aK,(YH QXA Yc),fun _ _ _=>rfl,mixed,Yt,Y0,Yz⟩ Tryz.func68 fun _ _ h=>(QYy big _).trans h
def QY1:LT:={ live:=[],keep:=[],cnd:=[10,13,19,39,45,50] }
noncomputable def QWT:Bn:={ tab:=tab,fs:=[],inl:=[] }
def QFy (x:Int):Option (Zw):=
 (bif (x==1) then (some ([119,110,45]:List Int)) else (bif (x==2) then (some ([119,116,45]:List Int)) else (bif (x==3) then (some ([119,98,45]:List Int)) else (bif (x==4) then (some ([119,45,45]:List Int)) else (bif (x==15) then (some ([119,45,45]:List Int)) else (bif (x==5) then (some ([119,114,45]:List Int)) else (bif (x==12) then (some ([119,114,45]:List Int)) else (bif (x==16) then (some ([119,114,45]:List Int)) else (bif (x==18) then (some ([119,114,45]:List Int)) else (bif (x==21) then (some ([119,114,45]:List Int)) else (bif (x==6) then (some ([119,114,114]:List Int)) else (bif (x==7) then (some ([119,114,114]:List Int)) else (bif (x==8) then (some ([119,114,114]:List Int)) else (bif (x==9) then (some ([119,114,114]:List Int)) else (bif (x==10) then (some ([119,114,114]:List Int)) else (bif (x==11) then (some ([119,114,114]:List Int)) else (bif (x==19) then (some ([119,114,114]:List Int)) else (bif (x==13) then (some ([119,114,102]:List Int)) else (bif (x==14) then (some ([114,102,114]:List Int)) else (bif (x==17) then (some ([114,114,45]:List Int)) else (bif (x==20) then (some ([114,114,114]:List Int)) else (bif (x==22) then (some ([105,45,45]:List Int)) else (bif (x==23) then (some ([114,105,45]:List Int)) else (bif (x==24) then (some ([114,45,45]:List Int)) else (bif (x==28) then (some ([114,45,45]:List Int)) else (bif (x==32) then (some ([114,45,45]:List Int)) else (bif (x==25) then (some ([103,99,45]:List Int)) else (bif (x==26) then (some ([99,45,45]:List Int)) else (bif (x==27) then (some ([99,45,45]:List Int)) else (bif (x==29) then (some ([119,119,45]:List Int)) else (bif (x==30) then (some ([45,45,45]:List Int)) else (bif (x==31) then (some ([45,45,45]:List Int)) else (bif (x==33) then (some ([119,114,45]:List Int)) else (bif (x==34) then (some ([101,45,45]:List Int)) else (some ([]:List Int))))))))))))))))))))))))))))))))))))
def mX (x:Int):Option (Zw):=QFy x
def QPP:U0:=⟨[mQ],[.str],[false],fun x=>mX x⟩
theorem QTW:Hw Tryz.prog 66 QPP:=rz (E:=QWT) (lt:=QY1) (lv:=6) (N:=big) ⟨aK,Yc,fun _ _ _=>rfl,mixed,Yt,Y0,Yz⟩ Tryz.func66 fun x _ h=>Eq.trans (b:=mX x) (by kernel_rfl) h
def QY2:LT:={ live:=[],keep:=[] }
noncomputable def QWU:Bn:={ tab:=tab,fs:=[],inl:=[] }
def QCf (x:Zy):Option (Zw):=
 (let x1:Zw:=[x.2.1,x.2.2.1,x.2.2.2.1];(some x1))
def gN (x:Zy):Option (Zw):=QCf x
def QPQ:U0:=⟨[Z4],[(.arr 3 Z2)],[false],fun x=>gN x⟩
theorem QTe:Hw Tryz.prog 67 QPQ:=rz (E:=QWU) (lt:=QY2) (lv:=6) (N:=big) ⟨aK,Yc,fun _ _ _=>rfl,mixed,Yt,Y0,Yz⟩ Tryz.func67 fun x _ h=>Eq.trans (b:=gN x) (by kernel_rfl) h
def QY3:LT:={ live:=[],keep:=[] }
noncomputable def QWV:Bn:={ tab:=tab,fs:=[],inl:=[] }
def QCY (x:Y78):Option (Bool):=
 (bif (x.1==45) then (some (x.2==0)) else (bif (x.1==119) then (bif (x.1==119) then (bif (decide (x.2≥0)) then (some (decide (x.2 < 16))) else (some false)) else (bif (x.1==103) then (bif (x.1==103) then (bif (decide (x.2≥(-1:Int))) then (some (decide (x.2 < 16))) else (some false)) else (bif (x.1==116) then (bif (x.1==116) then (bif (decide (x.2≥0)) then (some (decide (x.2 < 32))) else (some false)) else (bif (x.1==98) then (bif (decide (x.2≥0)) then (some (decide (x.2 < 2))) else (some false)) else (bif (x.1==102) then (bif (decide (x.2≥0)) then (some (decide (x.2 < 8))) else (some false)) else (bif (x.1==105) then (bif (decide (x.2≥0)) then (some (decide (x.2 < 200))) else (some false)) else (some true))))) else (bif (x.1==99) then (bif (decide (x.2≥0)) then (some (decide (x.2 < 32))) else (some false)) else (bif (x.1==98) then (bif (decide (x.2≥0)) then (some (decide (x.2 < 2))) else (some false)) else (bif (x.1==102) then (bif (decide (x.2≥0)) then (some (decide (x.2 < 8))) else (some false)) else (bif (x.1==105) then (bif (decide (x.2≥0)) then (some (decide (x.2 < 200))) else (some false)) else (some true))))))) else (bif (x.1==101) then (bif (decide (x.2≥(-1:Int))) then (some (decide (x.2 < 16))) else (some false)) else (bif (x.1==116) then (bif (x.1==116) then (bif (decide (x.2≥0)) then (some (decide (x.2 < 32))) else (some false)) else (bif (x.1==98) then (bif (decide (x.2≥0)) then (some (decide (x.2 < 2))) else (some false)) else (bif (x.1==102) then (bif (decide (x.2≥0)) then (some (decide (x.2 < 8))) else (some false)) else (bif (x.1==105) then (bif (decide (x.2≥0)) then (some (decide (x.2 < 200))) else (some false)) else (some true))))) else (bif (x.1==99) then (bif (decide (x.2≥0)) then (some (decide (x.2 < 32))) else (some false)) else (bif (x.1==98) then (bif (decide (x.2≥0)) then (some (decide (x.2 < 2))) else (some false)) else (bif (x.1==102) then (bif (decide (x.2≥0)) then (some (decide (x.2 < 8))) else (some false)) else (bif (x.1==105) then (bif (decide (x.2≥0)) then (some (decide (x.2 < 200))) else (some false)) else (some true))))))))) else (bif (x.1==114) then (bif (decide (x.2≥0)) then (some (decide (x.2 < 16))) else (some false)) else (bif (x.1==103) then (bif (x.1==103) then (bif (decide (x.2≥(-1:Int))) then (some (decide (x.2 < 16))) else (some false)) else (bif (x.1==116) then (bif (x.1==116) then (bif (decide (x.2≥0)) then (some (decide (x.2 < 32))) else (some false)) else (bif (x.1==98) then (bif (decide (x.2≥0)) then (some (decide (x.2 < 2))) else (some false)) else (bif (x.1==102) then (bif (decide (x.2≥0)) then (some (decide (x.2 < 8))) else (some false)) else (bif (x.1==105) then (bif (decide (x.2≥0)) then (some (decide (x.2 < 200))) else (some false)) else (some true))))) else (bif (x.1==99) then (bif (decide (x.2≥0)) then (some (decide (x.2 < 32))) else (some false)) else (bif (x.1==98) then (bif (decide (x.2≥0)) then (some (decide (x.2 < 2))) else (some false)) else (bif (x.1==102) then (bif (decide (x.2≥0)) then (some (decide (x.2 < 8))) else (some false)) else (bif (x.1==105) then (bif (decide (x.2≥0)) then (some (decide (x.2 < 200))) else (some false)) else (some true))))))) else (bif (x.1==101) then (bif (decide (x.2≥(-1:Int))) then (some (decide (x.2 < 16))) else (some false)) else (bif (x.1==116) then (bif (x.1==116) then (bif (decide (x.2≥0)) then (some (decide (x.2 < 32))) else (some false)) else (bif (x.1==98) then (bif (decide (x.2≥0)) then (some (decide (x.2 < 2))) else (some false)) else (bif (x.1==102) then (bif (decide (x.2≥0)) then (some (decide (x.2 < 8))) else (some false)) else (bif (x.1==105) then (bif (decide (x.2≥0)) then (some (decide (x.2 < 200))) else (some false)) else (some true))))) else (bif (x.1==99) then (bif (decide (x.2≥0)) then (some (decide (x.2 < 32))) else (some false)) else (bif (x.1==98) then (bif (decide (x.2≥0)) then (some (decide (x.2 < 2))) else (some false)) else (bif (x.1==102) then (bif (decide (x.2≥0)) then (some (decide (x.2 < 8))) else (some false)) else (bif (x.1==105) then (bif (decide (x.2≥0)) then (some (decide (x.2 < 200))) else (some false)) else (some true)))))))))))
def sM (x:Y78):Option (Bool):=QCY x
def QSe:U0:=⟨[mQ,Z2],[.bool],[false],fun x=>sM x⟩
theorem QXC:Hw Tryz.prog 114 QSe:=rz (E:=QWV) (lt:=QY3) (lv:=6) (N:=big) ⟨aK,Yc,fun _ _ _=>rfl,mixed,Yt,Y0,Yz⟩ Tryz.func114 fun x _ h=>Eq.trans (b:=sM x) (by kernel_rfl) h
def QPx:LT:={ live:=[(5,[3,4,5])],keep:=[] }
noncomputable def QMM:Bn:={ tab:=tab,fs:=[(66,QPP),(67,QPQ),(114,QSe)],inl:=[] }
noncomputable def QFB (v:Y75):St:={ s:=[(3,(.val ⟨.str,v.1⟩)),(4,(.loc 0 [])),(5,(.val ⟨Z2,v.2.1⟩))],l:=[(0,.var (.arr 3 Z2) (.val ⟨(.arr 3 Z2),v.2.2⟩))],k:=[],b:=4096 }
def vH (aG:Y75->Option (Int)) (v:Y75):Option (Int):=
 (bif (decide (v.2.1 < 3)) then ((Nk v.1 v.2.1).bind fun x3=>(bif (decide (0<=v.2.1)&&decide (v.2.1 < 3)) then ((nth v.2.2 (Int.toNat v.2.1)).bind fun x4=>((sM (x3,x4)).bind fun x5=>(bif (!x5) then (some (8:Int)) else (let x6:Int:=(IntKind.i64.wrap (v.2.1+1));(aG (v.1,x6,v.2.2)))))) else none)) else (some (0:Int)))
def lq (N:Nat) (aG:Y75->Option (Int)) (v:Y75):Option (Int):=vH aG v
theorem QQN (N:Nat) (s0:St->Option (Int)) (v):(ZR (QMM) QPx 6 N Tryz.f64 [Z2] [false] [] 0 Xv) s0 (QFB v)=lq N (fun v=>s0 (QFB v)) v:=by kernel_rfl
def uf (aJ:Y75->Option (Int)) (x:Zy):Option (Int):=
 ((mX x.1).bind fun x1=>((gN x).bind fun x2=>(bif ((List.length x1:Int) != 3) then (some (8:Int)) else (aJ (x1,(0:Int),x2)))))
def QBR (N:Nat) (x:Zy):Option (Int):=uf (Gb (lq N) N) x
theorem QYz (N:Nat) (x:Zy):rise (QMM) QPx 6 N Tryz.f64 [Z4] [Z2] [false] x=QBR N x:=Eq.trans (b:=uf (fun v=>Ot (ZR (QMM) QPx 6 N Tryz.f64 [Z2] [false] [] 0 Xv) N (QFB v)) x) (by kernel_rfl) (by rw [funext (Tf QFB (QQN N) N)];rfl)
def yc (x:Zy):Option (Int):=QBR big x
def QSf:U0:=⟨[Z4],[Z2],[false],fun x=>yc x⟩
theorem QXD:Hw Tryz.prog 64 QSf:=rz (E:=QMM) ⟨aK,(YH QTW (YH QTe (YH QXC Yc))),fun _ _ _=>rfl,mixed,Yt,Y0,Yz⟩ Tryz.func64 fun _ _ h=>(QYz big _).trans h
def QPy:LT:={ live:=[(4,[0,1,5])],keep:=[] }
noncomputable def QMN:Bn:={ tab:=tab,fs:=[],inl:=[] }
noncomputable def QFC (v:Y72):St:={ s:=[(0,(.val ⟨Z5,v.1⟩)),(1,(.val ⟨Z2,v.2.1⟩)),(5,(.val ⟨Z2,v.2.2⟩))],l:=[],k:=[],b:=4096 }
def iK (aG:Y72->Option (Bool)) (v:Y72):Option (Bool):=
 (bif (decide (v.2.2 < (List.length v.1:Int))) then ((Nk v.1 v.2.2).bind fun x2=>(bif (decide (x2.1≥v.2.1)) then (some false) else (bif (decide (v.2.2 > 0)) then (let x3:Int:=(IntKind.i64.wrap (v.2.2 - 1));((Nk v.1 x3).bind fun x4=>((Nk v.1 v.2.2).bind fun x5=>(bif (decide (x4.1≥x5.1)) then (some false) else (let x6:Int:=(IntKind.i64.wrap (v.2.2 - 1));((Nk v.1 x6).bind fun x7=>((Nk v.1 v.2.2).bind fun x8=>(bif (x7.2.1==x8.2.1) then (some false) else (let x9:Int:=(IntKind.i64.wrap (v.2.2+1));(aG (v.1,v.2.1,x9))))))))))) else (let iO:Int:=(IntKind.i64.wrap (v.2.2+1));(aG (v.1,v.2.1,iO)))))) else (some true))
def rZ (N:Nat) (aG:Y72->Option (Bool)) (v:Y72):Option (Bool):=iK aG v
theorem QQO (N:Nat) (s0:St->Option (Bool)) (v):(ZR (QMN) QPy 6 N Tryz.f147 [.bool] [false] [] 0 Xv) s0 (QFC v)=rZ N (fun v=>s0 (QFC v)) v:=by kernel_rfl
def wY (aJ:Y72->Option (Bool)) (x:Zz×Int):Option (Bool):=
 (bif (decide ((List.length x.1:Int) < 1)) then (some false) else ((Nk x.1 (0:Int)).bind fun x1=>(bif (x1.1 != 0) then (some false) else (aJ (x.1,x.2,(0:Int))))))
def QCT (N:Nat) (x:Zz×Int):Option (Bool):=wY (Gb (rZ N) N) x
theorem QZ0 (N:Nat) (x:Zz×Int):rise (QMN) QPy 6 N Tryz.f147 [Z5,Z2] [.bool] [false] x=QCT N x:=Eq.trans (b:=wY (fun v=>Ot (ZR (QMN) QPy 6 N Tryz.f147 [.bool] [false] [] 0 Xv) N (QFC v)) x) (by kernel_rfl) (by rw [funext (Tf QFC (QQO N) N)];rfl)
def wE (x:Zz×Int):Option (Bool):=QCT big x
def QSg:U0:=⟨[Z5,Z2],[.bool],[false],fun x=>wE x⟩
theorem QXE:Hw Tryz.prog 147 QSg:=rz (E:=QMN) ⟨aK,Yc,fun _ _ _=>rfl,mixed,Yt,Y0,Yz⟩ Tryz.func147 fun _ _ h=>(QZ0 big _).trans h
def QLE:LT:={ live:=[(4,[0,3,5]),(9,[3,6])],keep:=[] }
noncomputable def QJE:Bn:={ tab:=tab,fs:=[(64,QSf),(145,Gz3),(146,Gz4),(147,QSg)],inl:=[] }
noncomputable def QFD (v:Int×Zu):St:={ s:=[(3,(.loc 0 [])),(6,(.val ⟨Z2,v.1⟩))],l:=[(0,.var Z0 (.val ⟨Z0,v.2⟩))],k:=[],b:=4096 }
noncomputable def QBt (v:Zv×Int×Zu):St:={ s:=[(0,(.val ⟨qj,v.1⟩)),(3,(.loc 0 [])),(5,(.val ⟨Z2,v.2.1⟩))],l:=[(0,.var Z0 (.val ⟨Z0,v.2.2⟩))],k:=[],b:=4096 }
def qU (aG:Zv×Int×Zu->Option (Bool)) (aH:Int×Zu->Option (Bool)) (v:Int×Zu):Option (Bool):=
 (bif (decide (v.1 < (List.length v.2.2.2.2.2.1:Int))) then ((Nk v.2.2.2.2.2.1 v.1).bind fun x6=>((yc x6).bind fun x7=>(bif (x7 != 0) then (some false) else (let x8:Int:=(IntKind.i64.wrap (v.1+1));(aH (x8,v.2)))))) else ((wE (v.2.2.2.2.2.2.1,(List.length v.2.2.2.2.2.1:Int))).bind fun x9=>(bif x9 then ((wE (v.2.2.2.2.2.2.2.1,(List.length v.2.2.2.2.2.1:Int))).bind fun iO=>(some iO)) else (some false))))
def eZ (N:Nat) (aG:Zv×Int×Zu->Option (Bool)) (aH:Int×Zu->Option (Bool)) (v:Int×Zu):Option (Bool):=qU aG aH v
theorem QQR (N:Nat) (s0:St->Option (Bool)) (s1:St->Option (Bool)) (v):(ZR (QJE) QLE 6 N Tryz.f113 [.bool] [false] [] 1 Xv) s1 (QFD v)=eZ N (fun v=>s0 (QBt v)) (fun v=>s1 (QFD v)) v:=by kernel_rfl
def lD (bF:Int×Zu->Option (Bool)) (aG:Zv×Int×Zu->Option (Bool)) (v:Zv×Int×Zu):Option (Bool):=
 (bif (decide (v.2.1 < (List.length v.2.2.2.2.2.1:Int))) then ((Nk v.2.2.2.2.2.1 v.2.1).bind fun x3=>(bif (decide (x3.2.1 < 0)) then (some false) else ((Nk v.2.2.2.2.2.1 v.2.1).bind fun x4=>(bif (decide (x4.2.1≥(List.length v.1:Int))) then (some false) else (let x5:Int:=(IntKind.i64.wrap (v.2.1+1));(aG (v.1,x5,v.2.2))))))) else (bF ((0:Int),v.2.2)))
def eY (N:Nat) (aG:Zv×Int×Zu->Option (Bool)) (v:Zv×Int×Zu):Option (Bool):=lD (Gb (eZ N aG) N) aG v
theorem QQP (N:Nat) (s0:St->Option (Bool)) (v):(ZR (QJE) QLE 6 N Tryz.f113 [.bool] [false] [] 0 Xv) s0 (QBt v)=eY N (fun v=>s0 (QBt v)) v:=Eq.trans (b:=lD (fun v=>Ot (ZR (QJE) QLE 6 N Tryz.f113 [.bool] [false] [] 1 Xv) N (QFD v)) (fun v=>s0 (QBt v)) v) (by kernel_rfl) (by rw [funext (Tf QFD (QQR N s0) N)];rfl)
def oV (aJ:Zv×Int×Zu->Option (Bool)) (x:Zv×Zu):Option (Bool):=
 ((uF x.2.1).bind fun x1=>(bif (!x1) then (some false) else ((ng (x.2.2.2.2.1,(16:Int))).bind fun x2=>(bif (!x2) then (some false) else (bif (decide (x.2.2.1 < 0)) then (some false) else (bif (decide (x.2.2.1 > (List.length x.2.2.2.2.1:Int))) then (some false) else (bif (decide (x.2.2.2.1 < (-1:Int))) then (some false) else (bif (decide (x.2.2.2.1≥(List.length x.1:Int))) then (some false) else (bif (decide ((List.length x.2.2.2.2.2.1:Int) < 1)) then (some false) else (bif (decide ((List.length x.2.2.2.2.2.1:Int) > 200)) then (some false) else (aJ (x.1,(0:Int),x.2))))))))))))
def zP (N:Nat) (x:Zv×Zu):Option (Bool):=oV (Gb (eY N) N) x
theorem QZ1 (N:Nat) (x:Zv×Zu):rise (QJE) QLE 6 N Tryz.f113 [qj,Z0] [.bool] [false] x=zP N x:=Eq.trans (b:=oV (fun v=>Ot (ZR (QJE) QLE 6 N Tryz.f113 [.bool] [false] [] 0 Xv) N (QBt v)) x) (by kernel_rfl) (by rw [funext (Tf QBt (QQP N) N)];rfl)
def tF (x:Zv×Zu):Option (Bool):=zP big x
def QSh:U0:=⟨[qj,Z0],[.bool],[false],fun x=>tF x⟩
theorem QXF:Hw Tryz.prog 113 QSh:=rz (E:=QJE) ⟨aK,(YH QXD (YH Lz3 (YH Lz4 (YH QXE Yc)))),fun _ _ _=>rfl,mixed,Yt,Y0,Yz⟩ Tryz.func113 fun _ _ h=>(QZ1 big _).trans h
def QEx:LT:={ live:=[(5,[1,3,5]),(10,[1,6]),(15,[1,7]),(20,[1,7,8])],keep:=[] }
noncomputable def QEA:Bn:={ tab:=tab,fs:=[(68,QSd),(112,Gz8),(113,QSh)],inl:=[] }
noncomputable def QFE (v:Y71):St:={ s:=[(1,(.loc 0 [])),(7,(.val ⟨Z2,v.1⟩)),(8,(.val ⟨Z2,v.2.1⟩))],l:=[(0,.var Z3 (.val ⟨Z3,v.2.2⟩))],k:=[],b:=4096 }
noncomputable def QBu (v:Y80):St:={ s:=[(1,(.loc 0 [])),(7,(.val ⟨Z2,v.1⟩))],l:=[(0,.var Z3 (.val ⟨Z3,v.2⟩))],k:=[],b:=4096 }
noncomputable def zk (v:Y80):St:={ s:=[(1,(.loc 0 [])),(6,(.val ⟨Z2,v.1⟩))],l:=[(0,.var Z3 (.val ⟨Z3,v.2⟩))],k:=[],b:=4096 }
noncomputable def xF (v:xg):St:={ s:=[(1,(.loc 0 [])),(3,(.row 1)),(5,(.val ⟨Z2,v.1⟩))],l:=[(0,.var Z3 (.val ⟨Z3,v.2.1⟩)),(1,.row Z2 v.2.2)],k:=[],b:=4096 }
def xK (aG:xg->Option (Bool)) (aH:Y80->Option (Bool)) (bJ:Y80->Option (Bool)) (w9:Y71->Option (Bool)) (v:Y71):Option (Bool):=
 (bif (decide (v.2.1 < v.1)) then ((Nk v.2.2.2.2.1 v.2.1).bind fun x9=>((Nk v.2.2.2.2.1 v.1).bind fun iO=>(bif (JW .str x9.1 iO.1) then (some false) else (let pE:Int:=(IntKind.i64.wrap (v.2.1+1));(w9 (v.1,pE,v.2.2)))))) else (let qh:Int:=(IntKind.i64.wrap (v.1+1));(bJ (qh,v.2.2))))
def kI (N:Nat) (aG:xg->Option (Bool)) (aH:Y80->Option (Bool)) (bJ:Y80->Option (Bool)) (w9:Y71->Option (Bool)) (v:Y71):Option (Bool):=xK aG aH bJ w9 v
theorem QQV (N:Nat) (s0:St->Option (Bool)) (s1:St->Option (Bool)) (s2:St->Option (Bool)) (s3:St->Option (Bool)) (v):(ZR (QEA) QEx 6 N Tryz.f63 [.bool] [false] [] 3 (Yx s2 Xv)) s3 (QFE v)=kI N (fun v=>s0 (xF v)) (fun v=>s1 (zk v)) (fun v=>s2 (QBu v)) (fun v=>s3 (QFE v)) v:=by kernel_rfl
def sD (QGp:Y71->Option (Bool)) (aG:xg->Option (Bool)) (aH:Y80->Option (Bool)) (bJ:Y80->Option (Bool)) (v:Y80):Option (Bool):=
 (bif (decide (v.1 < (List.length v.2.2.2.1:Int))) then ((Nk v.2.2.2.1 v.1).bind fun x7=>((tF (v.2.1,x7)).bind fun x8=>(bif (!x8) then (some false) else (QGp (v.1,(0:Int),v.2))))) else (some true))
def kH (N:Nat) (aG:xg->Option (Bool)) (aH:Y80->Option (Bool)) (bJ:Y80->Option (Bool)) (v:Y80):Option (Bool):=sD (Gb (kI N aG aH bJ) N) aG aH bJ v
theorem QQU (N:Nat) (s0:St->Option (Bool)) (s1:St->Option (Bool)) (s2:St->Option (Bool)) (v):(ZR (QEA) QEx 6 N Tryz.f63 [.bool] [false] [] 2 Xv) s2 (QBu v)=kH N (fun v=>s0 (xF v)) (fun v=>s1 (zk v)) (fun v=>s2 (QBu v)) v:=Eq.trans (b:=sD (fun v=>Ot (ZR (QEA) QEx 6 N Tryz.f63 [.bool] [false] [] 3 (Yx s2 Xv)) N (QFE v)) (fun v=>s0 (xF v)) (fun v=>s1 (zk v)) (fun v=>s2 (QBu v)) v) (by kernel_rfl) (by rw [funext (Tf QFE (QQV N s0 s1 s2) N)];rfl)
def r9 (zn:Y80->Option (Bool)) (aG:xg->Option (Bool)) (aH:Y80->Option (Bool)) (v:Y80):Option (Bool):=
 (bif (decide (v.1 < (List.length v.2.2.1:Int))) then ((Nk v.2.2.1 v.1).bind fun x5=>(bif (decide ((List.length x5:Int) > 64)) then (some false) else (let x6:Int:=(IntKind.i64.wrap (v.1+1));(aH (x6,v.2))))) else (zn ((0:Int),v.2)))
def kG (N:Nat) (aG:xg->Option (Bool)) (aH:Y80->Option (Bool)) (v:Y80):Option (Bool):=r9 (Gb (kH N aG aH) N) aG aH v
theorem QQT (N:Nat) (s0:St->Option (Bool)) (s1:St->Option (Bool)) (v):(ZR (QEA) QEx 6 N Tryz.f63 [.bool] [false] [] 1 Xv) s1 (zk v)=kG N (fun v=>s0 (xF v)) (fun v=>s1 (zk v)) v:=Eq.trans (b:=r9 (fun v=>Ot (ZR (QEA) QEx 6 N Tryz.f63 [.bool] [false] [] 2 Xv) N (QBu v)) (fun v=>s0 (xF v)) (fun v=>s1 (zk v)) v) (by kernel_rfl) (by rw [funext (Tf QBu (QQU N s0 s1) N)];rfl)
def ru (bF:Y80->Option (Bool)) (aG:xg->Option (Bool)) (v:xg):Option (Bool):=
 (bif (decide (v.1 < (List.length v.2.2:Int))) then (bif (decide (0<=v.1)&&decide (v.1 < (List.length v.2.2:Int))) then ((nth v.2.2 (Int.toNat v.1)).bind fun x3=>(bif (decide (x3 > 256)) then (some false) else (let x4:Int:=(IntKind.i64.wrap (v.1+1));(aG (x4,v.2.1,v.2.2))))) else none) else (bF ((0:Int),v.2.1)))
def kF (N:Nat) (aG:xg->Option (Bool)) (v:xg):Option (Bool):=ru (Gb (kG N aG) N) aG v
theorem QQS (N:Nat) (s0:St->Option (Bool)) (v):(ZR (QEA) QEx 6 N Tryz.f63 [.bool] [false] [] 0 Xv) s0 (xF v)=kF N (fun v=>s0 (xF v)) v:=Eq.trans (b:=ru (fun v=>Ot (ZR (QEA) QEx 6 N Tryz.f63 [.bool] [false] [] 1 Xv) N (zk v)) (fun v=>s0 (xF v)) v) (by kernel_rfl) (by rw [funext (Tf zk (QQT N s0) N)];rfl)
def wh (aJ:xg->Option (Bool)) (x:Zx):Option (Bool):=
 ((yX x.1).bind fun x1=>(bif (x1 != 0) then (some false) else (bif (decide ((List.length x.2.1:Int) > 32)) then (some false) else (bif (decide ((List.length x.2.2.1:Int) < 1)) then (some false) else (bif (decide ((List.length x.2.2.1:Int) > 32)) then (some false) else ((yZ x.1).bind fun x2=>(aJ ((0:Int),x,x2.1))))))))
def QCV (N:Nat) (x:Zx):Option (Bool):=wh (Gb (kF N) N) x
theorem QZ2 (N:Nat) (x:Zx):rise (QEA) QEx 6 N Tryz.f63 [Z3] [.bool] [false] x=QCV N x:=Eq.trans (b:=wh (fun v=>Ot (ZR (QEA) QEx 6 N Tryz.f63 [.bool] [false] [] 0 Xv) N (xF v)) x) (by kernel_rfl) (by rw [funext (Tf xF (QQS N) N)];rfl)
def zi (x:Zx):Option (Bool):=QCV big x
def QSi:U0:=⟨[Z3],[.bool],[false],fun x=>zi x⟩
theorem QXG:Hw Tryz.prog 63 QSi:=rz (E:=QEA) ⟨aK,(YH QXB (YH Lz8 (YH QXF Yc))),fun _ _ _=>rfl,mixed,Yt,Y0,Yz⟩ Tryz.func63 fun _ _ h=>(QZ2 big _).trans h
def QPz:LT:={ live:=[(2,[0,3])],keep:=[] }
noncomputable def QMO:Bn:={ tab:=tab,fs:=[],inl:=[] }
noncomputable def QFF (v:Int×Zw):St:={ s:=[(0,(.val ⟨Z15,v.1⟩)),(3,(.row 0))],l:=[(0,.row mQ v.2)],k:=[],b:=4096 }
def rA (aG:Int×Zw->Option (Zw)) (v:Int×Zw):Option (Zw):=
 (bif (decide (v.1≥128)) then (let x1:Int:=(IntKind.u8.wrap (v.1.tmod (128:Int)));(let x2:Int:=(IntKind.u8.wrap (x1+128));(bif (Nat.ble 1 1&&Nat.ble (List.length v.2+List.length ([x2]:Zw)) lim) then (let x3:Zw:=(List.append v.2 ([x2]:Zw));(let x4:Int:=(IntKind.u64.wrap (v.1.tdiv (128:Int)));(aG (x4,x3)))) else none))) else (let x5:Zw:=([(IntKind.u8.wrap v.1)]:Zw);(bif (Nat.ble 1 1&&Nat.ble (List.length v.2+List.length x5) lim) then (some (List.append v.2 x5)) else none)))
def jD (N:Nat) (aG:Int×Zw->Option (Zw)) (v:Int×Zw):Option (Zw):=rA aG v
theorem QQW (N:Nat) (s0:St->Option (Zw)) (v):(ZR (QMO) QPz 6 N Tryz.f73 [Z8] [true] [] 0 Xv) s0 (QFF v)=jD N (fun v=>s0 (QFF v)) v:=by kernel_rfl
def z8 (aJ:Int×Zw->Option (Zw)) (x:Int):Option (Zw):=
 (aJ (x,([]:List Int)))
def zu (N:Nat) (x:Int):Option (Zw):=z8 (Gb (jD N) N) x
theorem QZ3 (N:Nat) (x:Int):rise (QMO) QPz 6 N Tryz.f73 [Z15] [Z8] [true] x=zu N x:=Eq.trans (b:=z8 (fun v=>Ot (ZR (QMO) QPz 6 N Tryz.f73 [Z8] [true] [] 0 Xv) N (QFF v)) x) (by kernel_rfl) (by rw [funext (Tf QFF (QQW N) N)];rfl)
def bG (x:Int):Option (Zw):=zu big x
def QJM:U0:=⟨[Z15],[Z8],[true],fun x=>bG x⟩
theorem QKj:Hw Tryz.prog 73 QJM:=rz (E:=QMO) ⟨aK,Yc,fun _ _ _=>rfl,mixed,Yt,Y0,Yz⟩ Tryz.func73 fun _ _ h=>(QZ3 big _).trans h
def QY4:LT:={ live:=[],keep:=[] }
noncomputable def QWW:Bn:={ tab:=tab,fs:=[(73,QJM)],inl:=[] }
def xW (x:Int):Option (Zw):=
 ((bG (IntKind.u64.wrap x)).bind fun x1=>(some x1))
def aP (x:Int):Option (Zw):=xW x
def QPR:U0:=⟨[Z2],[Z8],[true],fun x=>aP x⟩
theorem QU7:Hw Tryz.prog 70 QPR:=rz (E:=QWW) (lt:=QY4) (lv:=6) (N:=big) ⟨aK,(YH QKj Yc),fun _ _ _=>rfl,mixed,Yt,Y0,Yz⟩ Tryz.func70 fun x _ h=>Eq.trans (b:=aP x) (by kernel_rfl) h
def QY5:LT:={ live:=[],keep:=[] }
noncomputable def QWX:Bn:={ tab:=tab,fs:=[(73,QJM)],inl:=[] }
def QCX (x:Zw):Option (Zw):=
 (let x1:Int:=(IntKind.u64.wrap (List.length x:Int));((bG x1).bind fun x2=>(bif (Nat.ble 1 1&&Nat.ble (List.length x2+List.length x) lim) then (some (List.append x2 x)) else none)))
def lW (x:Zw):Option (Zw):=QCX x
def QPS:U0:=⟨[.str],[Z8],[true],fun x=>lW x⟩
theorem QU8:Hw Tryz.prog 72 QPS:=rz (E:=QWX) (lt:=QY5) (lv:=6) (N:=big) ⟨aK,(YH QKj Yc),fun _ _ _=>rfl,mixed,Yt,Y0,Yz⟩ Tryz.func72 fun x _ h=>Eq.trans (b:=lW x) (by kernel_rfl) h
def QQ0:LT:={ live:=[(3,[0,3,4])],keep:=[] }
noncomputable def QMP:Bn:={ tab:=tab,fs:=[(70,QPR),(72,QPS)],inl:=[] }
noncomputable def QFG (v:aA×Int×Zw):St:={ s:=[(0,(.val ⟨Z7,v.1⟩)),(3,(.row 0)),(4,(.val ⟨Z2,v.2.1⟩))],l:=[(0,.row mQ v.2.2)],k:=[],b:=4096 }
def tL (aG:aA×Int×Zw->Option (Zw)) (v:aA×Int×Zw):Option (Zw):=
 (bif (decide (v.2.1 < (List.length v.1:Int))) then ((Nk v.1 v.2.1).bind fun x2=>((lW x2.1).bind fun x3=>(bif (Nat.ble 1 1&&Nat.ble (List.length v.2.2+List.length x3) lim) then ((Nk v.1 v.2.1).bind fun x4=>((aP x4.2.1).bind fun x5=>(bif (Nat.ble 1 1&&Nat.ble (List.length (List.append v.2.2 x3)+List.length x5) lim) then (let x6:Zw:=(List.append (List.append v.2.2 x3) x5);(let x7:Int:=(IntKind.i64.wrap (v.2.1+1));(aG (v.1,x7,x6)))) else none))) else none))) else (some v.2.2))
def gQ (N:Nat) (aG:aA×Int×Zw->Option (Zw)) (v:aA×Int×Zw):Option (Zw):=tL aG v
theorem QQX (N:Nat) (s0:St->Option (Zw)) (v):(ZR (QMP) QQ0 6 N Tryz.f71 [Z8] [true] [] 0 Xv) s0 (QFG v)=gQ N (fun v=>s0 (QFG v)) v:=by kernel_rfl
def sI (aJ:aA×Int×Zw->Option (Zw)) (x:aA):Option (Zw):=
 ((aP (List.length x:Int)).bind fun x1=>(aJ (x,(0:Int),x1)))
def QAZ (N:Nat) (x:aA):Option (Zw):=sI (Gb (gQ N) N) x
theorem QZ4 (N:Nat) (x:aA):rise (QMP) QQ0 6 N Tryz.f71 [Z7] [Z8] [true] x=QAZ N x:=Eq.trans (b:=sI (fun v=>Ot (ZR (QMP) QQ0 6 N Tryz.f71 [Z8] [true] [] 0 Xv) N (QFG v)) x) (by kernel_rfl) (by rw [funext (Tf QFG (QQX N) N)];rfl)
def j6 (x:aA):Option (Zw):=QAZ big x
def QSj:U0:=⟨[Z7],[Z8],[true],fun x=>j6 x⟩
theorem QXH:Hw Tryz.prog 71 QSj:=rz (E:=QMP) ⟨aK,(YH QU7 (YH QU8 Yc)),fun _ _ _=>rfl,mixed,Yt,Y0,Yz⟩ Tryz.func71 fun _ _ h=>(QZ4 big _).trans h
def QY6:LT:={ live:=[],keep:=[] }
noncomputable def QWY:Bn:={ tab:=tab,fs:=[],inl:=[] }
def QAd (x:Int):Option (Int):=
 (bif (decide (x≥0)) then (let x1:Int:=(IntKind.u64.wrap ((IntKind.u64.wrap x) * 2));(some x1)) else (let x2:Int:=(IntKind.i64.wrap (x+1));(let x3:Int:=(IntKind.i64.wrap (0 - x2));(let x4:Int:=(IntKind.u64.wrap ((IntKind.u64.wrap x3) * 2));(let x5:Int:=(IntKind.u64.wrap (x4+1));(some x5))))))
def j5 (x:Int):Option (Int):=QAd x
def QPT:U0:=⟨[Z2],[Z15],[false],fun x=>j5 x⟩
theorem QU9:Hw Tryz.prog 74 QPT:=rz (E:=QWY) (lt:=QY6) (lv:=6) (N:=big) ⟨aK,Yc,fun _ _ _=>rfl,mixed,Yt,Y0,Yz⟩ Tryz.func74 fun x _ h=>Eq.trans (b:=j5 x) (by kernel_rfl) h
def QY7:LT:={ live:=[],keep:=[] }
noncomputable def QWZ:Bn:={ tab:=tab,fs:=[],inl:=[] }
def QEH (x:Int):Option (Bool):=
 (bif (x==110) then (some true) else (bif (x==103) then (some true) else (some (x==101))))
def rT (x:Int):Option (Bool):=QEH x
def QSk:U0:=⟨[mQ],[.bool],[false],fun x=>rT x⟩
theorem QXI:Hw Tryz.prog 117 QSk:=rz (E:=QWZ) (lt:=QY7) (lv:=6) (N:=big) ⟨aK,Yc,fun _ _ _=>rfl,mixed,Yt,Y0,Yz⟩ Tryz.func117 fun x _ h=>Eq.trans (b:=rT x) (by kernel_rfl) h
def QQ1:LT:={ live:=[(4,[3,4,5,6])],keep:=[] }
noncomputable def QMQ:Bn:={ tab:=tab,fs:=[(66,QPP),(67,QPQ),(73,QJM),(74,QPT),(117,QSk)],inl:=[] }
noncomputable def QFH (v:Y68):St:={ s:=[(3,(.row 0)),(4,(.val ⟨.str,v.1⟩)),(5,(.loc 1 [])),(6,(.val ⟨Z2,v.2.1⟩))],l:=[(0,.row mQ v.2.2.1),(1,.var (.arr 3 Z2) (.val ⟨(.arr 3 Z2),v.2.2.2⟩))],k:=[],b:=4096 }
def vI (aG:Y68->Option (Zw)) (v:Y68):Option (Zw):=
 (bif (decide (v.2.1 < 3)) then ((Nk v.1 v.2.1).bind fun x3=>(bif (x3==45) then (let x4:Int:=(IntKind.i64.wrap (v.2.1+1));(aG (v.1,x4,v.2.2.1,v.2.2.2))) else ((Nk v.1 v.2.1).bind fun x5=>((rT x5).bind fun x6=>(bif x6 then (bif (decide (0<=v.2.1)&&decide (v.2.1 < 3)) then ((nth v.2.2.2 (Int.toNat v.2.1)).bind fun x7=>((j5 x7).bind fun x8=>((bG x8).bind fun x9=>(bif (Nat.ble 1 1&&Nat.ble (List.length v.2.2.1+List.length x9) lim) then (let iO:Int:=(IntKind.i64.wrap (v.2.1+1));(aG (v.1,iO,(List.append v.2.2.1 x9),v.2.2.2))) else none)))) else none) else (bif (decide (0<=v.2.1)&&decide (v.2.1 < 3)) then ((nth v.2.2.2 (Int.toNat v.2.1)).bind fun pE=>((bG (IntKind.u64.wrap pE)).bind fun qh=>(bif (Nat.ble 1 1&&Nat.ble (List.length v.2.2.1+List.length qh) lim) then (let sQ:Zw:=(List.append v.2.2.1 qh);(let lN:Int:=(IntKind.i64.wrap (v.2.1+1));(aG (v.1,lN,sQ,v.2.2.2)))) else none))) else none)))))) else (some v.2.2.1))
def qE (N:Nat) (aG:Y68->Option (Zw)) (v:Y68):Option (Zw):=vI aG v
theorem QQY (N:Nat) (s0:St->Option (Zw)) (v):(ZR (QMQ) QQ1 6 N Tryz.f75 [Z8] [true] [] 0 Xv) s0 (QFH v)=qE N (fun v=>s0 (QFH v)) v:=by kernel_rfl
def ug (aJ:Y68->Option (Zw)) (x:Zy):Option (Zw):=
 ((mX x.1).bind fun x1=>((gN x).bind fun x2=>(aJ (x1,(0:Int),([x.1]:Zw),x2))))
def QBS (N:Nat) (x:Zy):Option (Zw):=ug (Gb (qE N) N) x
theorem QZ5 (N:Nat) (x:Zy):rise (QMQ) QQ1 6 N Tryz.f75 [Z4] [Z8] [true] x=QBS N x:=Eq.trans (b:=ug (fun v=>Ot (ZR (QMQ) QQ1 6 N Tryz.f75 [Z8] [true] [] 0 Xv) N (QFH v)) x) (by kernel_rfl) (by rw [funext (Tf QFH (QQY N) N)];rfl)
def yg (x:Zy):Option (Zw):=QBS big x
def QSl:U0:=⟨[Z4],[Z8],[true],fun x=>yg x⟩
theorem QXJ:Hw Tryz.prog 75 QSl:=rz (E:=QMQ) ⟨aK,(YH QTW (YH QTe (YH QKj (YH QU9 (YH QXI Yc))))),fun _ _ _=>rfl,mixed,Yt,Y0,Yz⟩ Tryz.func75 fun _ _ h=>(QZ5 big _).trans h
def QQ2:LT:={ live:=[(4,[0,3,4,5])],keep:=[] }
noncomputable def QMR:Bn:={ tab:=tab,fs:=[(73,QJM)],inl:=[] }
noncomputable def QFI (v:Zz×Int×Int×Zw):St:={ s:=[(0,(.val ⟨Z5,v.1⟩)),(3,(.row 0)),(4,(.val ⟨Z2,v.2.1⟩)),(5,(.val ⟨Z2,v.2.2.1⟩))],l:=[(0,.row mQ v.2.2.2)],k:=[],b:=4096 }
def mJ (aG:Zz×Int×Int×Zw->Option (Zw)) (v:Zz×Int×Int×Zw):Option (Zw):=
 (bif (decide (v.2.2.1 < (List.length v.1:Int))) then ((Nk v.1 v.2.2.1).bind fun x3=>(let x4:Int:=(IntKind.i64.wrap (x3.1 - v.2.1));((bG (IntKind.u64.wrap x4)).bind fun x5=>(bif (Nat.ble 1 1&&Nat.ble (List.length v.2.2.2+List.length x5) lim) then ((Nk v.1 v.2.2.1).bind fun x6=>((bG x6.2.1).bind fun x7=>(bif (Nat.ble 1 1&&Nat.ble (List.length (List.append v.2.2.2 x5)+List.length x7) lim) then (let x8:Zw:=(List.append (List.append v.2.2.2 x5) x7);((Nk v.1 v.2.2.1).bind fun x9=>(let iO:Int:=(IntKind.i64.wrap (v.2.2.1+1));(aG (v.1,x9.1,iO,x8))))) else none))) else none)))) else (some v.2.2.2))
def qF (N:Nat) (aG:Zz×Int×Int×Zw->Option (Zw)) (v:Zz×Int×Int×Zw):Option (Zw):=mJ aG v
theorem QQZ (N:Nat) (s0:St->Option (Zw)) (v):(ZR (QMR) QQ2 6 N Tryz.f76 [Z8] [true] [] 0 Xv) s0 (QFI v)=qF N (fun v=>s0 (QFI v)) v:=by kernel_rfl
def uh (aJ:Zz×Int×Int×Zw->Option (Zw)) (x:Zz):Option (Zw):=
 (let x1:Int:=(IntKind.u64.wrap (List.length x:Int));((bG x1).bind fun x2=>(aJ (x,(0:Int),(0:Int),x2))))
def QBT (N:Nat) (x:Zz):Option (Zw):=uh (Gb (qF N) N) x
theorem QZ6 (N:Nat) (x:Zz):rise (QMR) QQ2 6 N Tryz.f76 [Z5] [Z8] [true] x=QBT N x:=Eq.trans (b:=uh (fun v=>Ot (ZR (QMR) QQ2 6 N Tryz.f76 [Z8] [true] [] 0 Xv) N (QFI v)) x) (by kernel_rfl) (by rw [funext (Tf QFI (QQZ N) N)];rfl)
def uH (x:Zz):Option (Zw):=QBT big x
def QSm:U0:=⟨[Z5],[Z8],[true],fun x=>uH x⟩
theorem QXK:Hw Tryz.prog 76 QSm:=rz (E:=QMR) ⟨aK,(YH QKj Yc),fun _ _ _=>rfl,mixed,Yt,Y0,Yz⟩ Tryz.func76 fun _ _ h=>(QZ6 big _).trans h
def QEy:LT:={ live:=[(3,[1,3,4]),(17,[1,3,6]),(22,[1,3,7]),(29,[1,3,7,8,9])],keep:=[] }
noncomputable def QEB:Bn:={ tab:=tab,fs:=[(70,QPR),(71,QSj),(72,QPS),(73,QJM),(74,QPT),(75,QSl),(76,QSm)],inl:=[] }
noncomputable def QFJ (v:Y54):St:={ s:=[(1,(.loc 0 [])),(3,(.row 1)),(7,(.val ⟨Z2,v.1⟩)),(8,(.loc 2 [])),(9,(.val ⟨Z2,v.2.1⟩))],l:=[(0,.var Z3 (.val ⟨Z3,v.2.2.1⟩)),(1,.row mQ v.2.2.2.1),(2,.var Z0 (.val ⟨Z0,v.2.2.2.2⟩))],k:=[],b:=4096 }
noncomputable def QBv (v:xg):St:={ s:=[(1,(.loc 0 [])),(3,(.row 1)),(7,(.val ⟨Z2,v.1⟩))],l:=[(0,.var Z3 (.val ⟨Z3,v.2.1⟩)),(1,.row mQ v.2.2)],k:=[],b:=4096 }
noncomputable def zl (v:xg):St:={ s:=[(1,(.loc 0 [])),(3,(.row 1)),(6,(.val ⟨Z2,v.1⟩))],l:=[(0,.var Z3 (.val ⟨Z3,v.2.1⟩)),(1,.row mQ v.2.2)],k:=[],b:=4096 }
noncomputable def xG (v:xg):St:={ s:=[(1,(.loc 0 [])),(3,(.row 1)),(4,(.val ⟨Z2,v.1⟩))],l:=[(0,.var Z3 (.val ⟨Z3,v.2.1⟩)),(1,.row mQ v.2.2)],k:=[],b:=4096 }
def vJ (aG:xg->Option (Zw)) (aH:xg->Option (Zw)) (bJ:xg->Option (Zw)) (w9:Y54->Option (Zw)) (v:Y54):Option (Zw):=
 (bif (decide (v.2.1 < (List.length v.2.2.2.2.2.2.2.2.1:Int))) then ((Nk v.2.2.2.2.2.2.2.2.1 v.2.1).bind fun x36=>((yg x36).bind fun x37=>(bif (Nat.ble 1 1&&Nat.ble (List.length v.2.2.2.1+List.length x37) lim) then (let x38:Zw:=(List.append v.2.2.2.1 x37);(let x39:Int:=(IntKind.i64.wrap (v.2.1+1));(w9 (v.1,x39,v.2.2.1,x38,v.2.2.2.2)))) else none))) else ((uH v.2.2.2.2.2.2.2.2.2.1).bind fun x40=>(bif (Nat.ble 1 1&&Nat.ble (List.length v.2.2.2.1+List.length x40) lim) then (let x41:Zw:=(List.append v.2.2.2.1 x40);((uH v.2.2.2.2.2.2.2.2.2.2.1).bind fun x42=>(bif (Nat.ble 1 1&&Nat.ble (List.length x41+List.length x42) lim) then (let x43:Int:=(IntKind.i64.wrap (v.1+1));(bJ (x43,v.2.2.1,(List.append x41 x42)))) else none))) else none)))
def jH (N:Nat) (aG:xg->Option (Zw)) (aH:xg->Option (Zw)) (bJ:xg->Option (Zw)) (w9:Y54->Option (Zw)) (v:Y54):Option (Zw):=vJ aG aH bJ w9 v
theorem QQd (N:Nat) (s0:St->Option (Zw)) (s1:St->Option (Zw)) (s2:St->Option (Zw)) (s3:St->Option (Zw)) (v):(ZR (QEB) QEy 6 N Tryz.f39 [Z8] [true] [] 3 (Yx s2 Xv)) s3 (QFJ v)=jH N (fun v=>s0 (xG v)) (fun v=>s1 (zl v)) (fun v=>s2 (QBv v)) (fun v=>s3 (QFJ v)) v:=by kernel_rfl
def qP (QGp:Y54->Option (Zw)) (aG:xg->Option (Zw)) (aH:xg->Option (Zw)) (bJ:xg->Option (Zw)) (v:xg):Option (Zw):=
 (bif (decide (v.1 < (List.length v.2.1.2.2.1:Int))) then ((Nk v.2.1.2.2.1 v.1).bind fun x27=>((lW x27.1).bind fun x28=>(bif (Nat.ble 1 1&&Nat.ble (List.length v.2.2+List.length x28) lim) then ((aP x27.2.1).bind fun x29=>(bif (Nat.ble 1 1&&Nat.ble (List.length (List.append v.2.2 x28)+List.length x29) lim) then (let x30:Zw:=(List.append (List.append v.2.2 x28) x29);((j5 x27.2.2.1).bind fun x31=>((bG x31).bind fun x32=>(bif (Nat.ble 1 1&&Nat.ble (List.length x30+List.length x32) lim) then ((j6 x27.2.2.2.1).bind fun x33=>(bif (Nat.ble 1 1&&Nat.ble (List.length (List.append x30 x32)+List.length x33) lim) then (let x34:Zw:=(List.append (List.append x30 x32) x33);((aP (List.length x27.2.2.2.2.1:Int)).bind fun x35=>(bif (Nat.ble 1 1&&Nat.ble (List.length x34+List.length x35) lim) then (QGp (v.1,(0:Int),v.2.1,(List.append x34 x35),x27)) else none))) else none)) else none)))) else none)) else none))) else (some v.2.2))
def jG (N:Nat) (aG:xg->Option (Zw)) (aH:xg->Option (Zw)) (bJ:xg->Option (Zw)) (v:xg):Option (Zw):=qP (Gb (jH N aG aH bJ) N) aG aH bJ v
theorem QQc (N:Nat) (s0:St->Option (Zw)) (s1:St->Option (Zw)) (s2:St->Option (Zw)) (v):(ZR (QEB) QEy 6 N Tryz.f39 [Z8] [true] [] 2 Xv) s2 (QBv v)=jG N (fun v=>s0 (xG v)) (fun v=>s1 (zl v)) (fun v=>s2 (QBv v)) v:=Eq.trans (b:=qP (fun v=>Ot (ZR (QEB) QEy 6 N Tryz.f39 [Z8] [true] [] 3 (Yx s2 Xv)) N (QFJ v)) (fun v=>s0 (xG v)) (fun v=>s1 (zl v)) (fun v=>s2 (QBv v)) v) (by kernel_rfl) (by rw [funext (Tf QFJ (QQd N s0 s1 s2) N)];rfl)
def qO (zn:xg->Option (Zw)) (aG:xg->Option (Zw)) (aH:xg->Option (Zw)) (v:xg):Option (Zw):=
 (bif (decide (v.1 < (List.length v.2.1.2.1:Int))) then ((Nk v.2.1.2.1 v.1).bind fun x23=>((lW x23).bind fun x24=>(bif (Nat.ble 1 1&&Nat.ble (List.length v.2.2+List.length x24) lim) then (let x25:Int:=(IntKind.i64.wrap (v.1+1));(aH (x25,v.2.1,(List.append v.2.2 x24)))) else none))) else ((aP (List.length v.2.1.2.2.1:Int)).bind fun x26=>(bif (Nat.ble 1 1&&Nat.ble (List.length v.2.2+List.length x26) lim) then (zn ((0:Int),v.2.1,(List.append v.2.2 x26))) else none)))
def jF (N:Nat) (aG:xg->Option (Zw)) (aH:xg->Option (Zw)) (v:xg):Option (Zw):=qO (Gb (jG N aG aH) N) aG aH v
theorem QQb (N:Nat) (s0:St->Option (Zw)) (s1:St->Option (Zw)) (v):(ZR (QEB) QEy 6 N Tryz.f39 [Z8] [true] [] 1 Xv) s1 (zl v)=jF N (fun v=>s0 (xG v)) (fun v=>s1 (zl v)) v:=Eq.trans (b:=qO (fun v=>Ot (ZR (QEB) QEy 6 N Tryz.f39 [Z8] [true] [] 2 Xv) N (QBv v)) (fun v=>s0 (xG v)) (fun v=>s1 (zl v)) v) (by kernel_rfl) (by rw [funext (Tf QBv (QQc N s0 s1) N)];rfl)
def qN (bF:xg->Option (Zw)) (aG:xg->Option (Zw)) (v:xg):Option (Zw):=
 (bif (decide (v.1 < (List.length v.2.1.1:Int))) then ((Nk v.2.1.1 v.1).bind fun x2=>(bif (Nat.ble 1 1&&Nat.ble (List.length v.2.2+List.length ([x2.1]:Zw)) lim) then (let x3:Zw:=(List.append v.2.2 ([x2.1]:Zw));(bif (x2.1==4) then (bif (x2.1==4) then ((aP x2.2.1).bind fun x4=>(bif (Nat.ble 1 1&&Nat.ble (List.length x3+List.length x4) lim) then (let x5:Int:=(IntKind.i64.wrap (v.1+1));(aG (x5,v.2.1,(List.append x3 x4)))) else none)) else (bif (x2.1==6) then ((aP x2.2.1).bind fun x6=>(bif (Nat.ble 1 1&&Nat.ble (List.length x3+List.length x6) lim) then ((aP x2.2.2.1).bind fun x7=>(bif (Nat.ble 1 1&&Nat.ble (List.length (List.append x3 x6)+List.length x7) lim) then (let x8:Zw:=(List.append (List.append x3 x6) x7);(let x9:Int:=(IntKind.i64.wrap (v.1+1));(aG (x9,v.2.1,x8)))) else none)) else none)) else (bif (x2.1==5) then ((j6 x2.2.2.2.1).bind fun iO=>(bif (Nat.ble 1 1&&Nat.ble (List.length x3+List.length iO) lim) then (let pE:Int:=(IntKind.i64.wrap (v.1+1));(aG (pE,v.2.1,(List.append x3 iO)))) else none)) else (let qh:Int:=(IntKind.i64.wrap (v.1+1));(aG (qh,v.2.1,x3)))))) else (bif (x2.1==7) then ((aP x2.2.1).bind fun sQ=>(bif (Nat.ble 1 1&&Nat.ble (List.length x3+List.length sQ) lim) then (let lN:Int:=(IntKind.i64.wrap (v.1+1));(aG (lN,v.2.1,(List.append x3 sQ)))) else none)) else (bif (x2.1==6) then ((aP x2.2.1).bind fun lS=>(bif (Nat.ble 1 1&&Nat.ble (List.length x3+List.length lS) lim) then ((aP x2.2.2.1).bind fun xq=>(bif (Nat.ble 1 1&&Nat.ble (List.length (List.append x3 lS)+List.length xq) lim) then (let zS:Zw:=(List.append (List.append x3 lS) xq);(let x18:Int:=(IntKind.i64.wrap (v.1+1));(aG (x18,v.2.1,zS)))) else none)) else none)) else (bif (x2.1==5) then ((j6 x2.2.2.2.1).bind fun zU=>(bif (Nat.ble 1 1&&Nat.ble (List.length x3+List.length zU) lim) then (let x20:Int:=(IntKind.i64.wrap (v.1+1));(aG (x20,v.2.1,(List.append x3 zU)))) else none)) else (let x21:Int:=(IntKind.i64.wrap (v.1+1));(aG (x21,v.2.1,x3)))))))) else none)) else ((aP (List.length v.2.1.2.1:Int)).bind fun zV=>(bif (Nat.ble 1 1&&Nat.ble (List.length v.2.2+List.length zV) lim) then (bF ((0:Int),v.2.1,(List.append v.2.2 zV))) else none)))
def jE (N:Nat) (aG:xg->Option (Zw)) (v:xg):Option (Zw):=qN (Gb (jF N aG) N) aG v
theorem QQa (N:Nat) (s0:St->Option (Zw)) (v):(ZR (QEB) QEy 6 N Tryz.f39 [Z8] [true] [] 0 Xv) s0 (xG v)=jE N (fun v=>s0 (xG v)) v:=Eq.trans (b:=qN (fun v=>Ot (ZR (QEB) QEy 6 N Tryz.f39 [Z8] [true] [] 1 Xv) N (zl v)) (fun v=>s0 (xG v)) v) (by kernel_rfl) (by rw [funext (Tf zl (QQb N s0) N)];rfl)
def uj (aJ:xg->Option (Zw)) (x:Zx):Option (Zw):=
 ((aP (List.length x.1:Int)).bind fun x1=>(aJ ((0:Int),x,x1)))
def QBU (N:Nat) (x:Zx):Option (Zw):=uj (Gb (jE N) N) x
theorem QZ7 (N:Nat) (x:Zx):rise (QEB) QEy 6 N Tryz.f39 [Z3] [Z8] [true] x=QBU N x:=Eq.trans (b:=uj (fun v=>Ot (ZR (QEB) QEy 6 N Tryz.f39 [Z8] [true] [] 0 Xv) N (xG v)) x) (by kernel_rfl) (by rw [funext (Tf xG (QQa N) N)];rfl)
def yh (x:Zx):Option (Zw):=QBU big x
def QSn:U0:=⟨[Z3],[Z8],[true],fun x=>yh x⟩
theorem QXL:Hw Tryz.prog 39 QSn:=rz (E:=QEB) ⟨aK,(YH QU7 (YH QXH (YH QU8 (YH QKj (YH QU9 (YH QXJ (YH QXK Yc))))))),fun _ _ _=>rfl,mixed,Yt,Y0,Yz⟩ Tryz.func39 fun _ _ h=>(QZ7 big _).trans h
def QY8:LT:={ live:=[],keep:=[] }
noncomputable def QWa:Bn:={ tab:=tab,fs:=[(39,QSn),(63,QSi)],inl:=[] }
def zB (x:Zx):Option (Int):=
 ((zi x).bind fun x1=>(bif (!x1) then (some (8:Int)) else ((yh x).bind fun x2=>(bif (decide ((List.length x2:Int) > 20000)) then (some (4:Int)) else (some (0:Int))))))
def pY (x:Zx):Option (Int):=zB x
def QSo:U0:=⟨[Z3],[Z2],[false],fun x=>pY x⟩
theorem QXM:Hw Tryz.prog 27 QSo:=rz (E:=QWa) (lt:=QY8) (lv:=6) (N:=big) ⟨aK,(YH QXL (YH QXG Yc)),fun _ _ _=>rfl,mixed,Yt,Y0,Yz⟩ Tryz.func27 fun x _ h=>Eq.trans (b:=pY x) (by kernel_rfl) h
def QY9:LT:={ live:=[],keep:=[] }
noncomputable def QWb:Bn:={ tab:=tab,fs:=[],inl:=[] }
def QHj (x:Unit):Option (Zy):=
 (let x1:Zy:=((34:Int),((-1:Int),((0:Int),((0:Int),()))));(some x1))
def yU (x:Unit):Option (Zy):=QHj x
def QSp:U0:=⟨[],[Z4],[false],fun x=>yU x⟩
theorem QXN:Hw Tryz.prog 40 QSp:=rz (E:=QWb) (lt:=QY9) (lv:=6) (N:=big) ⟨aK,Yc,fun _ _ _=>rfl,mixed,Yt,Y0,Yz⟩ Tryz.func40 fun x _ h=>Eq.trans (b:=yU x) (by kernel_rfl) h
def QYB:LT:={ live:=[],keep:=[] }
noncomputable def QWc:Bn:={ tab:=tab,fs:=[(40,QSp)],inl:=[],vl:=[6,11,15,19,22,24,26,28] }
def QFx (x:Zy):Option (Zx):=
 (let x1:Y12:=((2:Int),((0:Int),((0:Int),(([]:aA),()))));(let x2:Zv:=([x1]:Zv);(let x3:(Zw×Y19):=(([110]:List Int),((0:Int),()));(let x4:aA:=([x3]:aA);(let x5:Zy:=((1:Int),((0:Int),((7:Int),((0:Int),()))));(let x6:Zy:=((25:Int),((-1:Int),((1:Int),((0:Int),()))));((yU ()).bind fun x7=>(let x8:aB:=([x5,x,x6,x7]:aB);(let x9:yM:=((0:Int),((0:Int),()));(let iO:yM:=((2:Int),((8:Int),()));(let pE:yM:=((3:Int),((0:Int),()));(let qh:Zz:=([x9,iO,pE]:Zz);(let sQ:yM:=((0:Int),((0:Int),()));(let lN:yM:=((1:Int),((1:Int),()));(let lS:yM:=((3:Int),((0:Int),()));(let xq:Zz:=([sQ,lN,lS]:Zz);(let zS:Zu:=(([109,97,105,110]:List Int),((0:Int),((-1:Int),(x4,(x8,(qh,(xq,())))))));(let x18:(Zw×Y19):=(([97]:List Int),((0:Int),()));(let zU:aA:=([x18]:aA);((yU ()).bind fun x20=>(let x21:aB:=([x20]:aB);(let zV:yM:=((0:Int),((0:Int),()));(let x23:Zz:=([zV]:Zz);(let x24:yM:=((0:Int),((0:Int),()));(let x25:Zz:=([x24]:Zz);(let x26:Zu:=(([102]:List Int),((1:Int),((-1:Int),(zU,(x21,(x23,(x25,())))))));(let x27:Y16:=([zS,x26]:Y16);(some (x2,(([]:List Zw),(x27,())))))))))))))))))))))))))))))))
def uE (x:Zy):Option (Zx):=QFx x
def QSq:U0:=⟨[Z4],[Z3],[false],fun x=>uE x⟩
theorem QXO:Hw Tryz.prog 12 QSq:=rz (E:=QWc) (lt:=QYB) (lv:=6) (N:=big) ⟨aK,(YH QXN Yc),fun _ _ _=>rfl,mixed,Yt,Y0,Yz⟩ Tryz.func12 fun x _ h=>Eq.trans (b:=uE x) (by kernel_rfl) h
def QUs:LT:={ live:=[],keep:=[] }
noncomputable def QSP:Bn:={ tab:=tab,fs:=[(19,QKX),(23,QKY)],inl:=[] }
def QFw (x:Zx×Int×Int×Int):Option (Bool):=
 ((pG x.1).bind fun x1=>(bif (x1.1==x.2.1) then (bif (x1.2.1==x.2.2.1) then (bif (x1.2.2==x.2.2.2) then ((fJ x.1).bind fun x2=>(some (x2==x.2.2.2))) else (some false)) else (some false)) else (some false)))
def uD (x:Zx×Int×Int×Int):Option (Bool):=QFw x
def QOX:U0:=⟨[Z3,Z2,Z2,Z2],[.bool],[false],fun x=>uD x⟩
theorem QTw:Hw Tryz.prog 10 QOX:=rz (E:=QSP) (lt:=QUs) (lv:=6) (N:=big) ⟨aK,(YH QOs (YH QOt Yc)),fun _ _ _=>rfl,mixed,Yt,Y0,Yz⟩ Tryz.func10 fun x _ h=>Eq.trans (b:=uD x) (by kernel_rfl) h
def QUt:LT:={ live:=[],keep:=[] }
noncomputable def QSQ:Bn:={ tab:=tab,fs:=[(10,QOX),(12,QSq)],inl:=[] }
def QFv (x:Unit):Option (Bool):=
 (let x1:Zy:=((24:Int),((0:Int),((0:Int),((0:Int),()))));((uE x1).bind fun x2=>((uD (x2,(0:Int),(0:Int),(0:Int))).bind fun x3=>(bif x3 then (let x4:Zy:=((31:Int),((0:Int),((0:Int),((0:Int),()))));((uE x4).bind fun x5=>((uD (x5,(0:Int),(-1:Int),(36:Int))).bind fun x6=>(some x6)))) else (some false)))))
def aV (x:Unit):Option (Bool):=QFv x
def QOY:U0:=⟨[],[.bool],[false],fun x=>aV x⟩
theorem QTx:Hw Tryz.prog 17 QOY:=rz (E:=QSQ) (lt:=QUt) (lv:=6) (N:=big) ⟨aK,(YH QTw (YH QXO Yc)),fun _ _ _=>rfl,mixed,Yt,Y0,Yz⟩ Tryz.func17 fun x _ h=>Eq.trans (b:=aV x) (by kernel_rfl) h
def QL9:LT:={ live:=[(3,[0,3,4])],keep:=[] }
noncomputable def QIO:Bn:={ tab:=tab,fs:=[],inl:=[] }
noncomputable def QD7 (v:Zv×Int×Zv):St:={ s:=[(0,(.val ⟨qj,v.1⟩)),(3,(.row 0)),(4,(.val ⟨Z2,v.2.1⟩))],l:=[(0,.row Z1 v.2.2)],k:=[],b:=4096 }
def oC (aG:Zv×Int×Zv->Option (Zv)) (v:Zv×Int×Zv):Option (Zv):=
 (bif (decide (v.2.1 < (List.length v.1:Int))) then ((Nk v.1 v.2.1).bind fun x1=>(let x2:aA:=([]:aA);((Nk v.1 v.2.1).bind fun x3=>(bif (Nat.ble 1 2&&Nat.ble (List.length x2+List.length x3.2.2.2.1) lim) then (let x4:aA:=(List.append x2 x3.2.2.2.1);(let x5:Zv:=([(x1.1,(x1.2.1,(x1.2.2.1,(x4,x1.2.2.2.2))))]:Zv);(bif (Nat.ble 1 4&&Nat.ble (List.length v.2.2+List.length x5) lim) then (let x6:Int:=(IntKind.i64.wrap (v.2.1+1));(aG (v.1,x6,(List.append v.2.2 x5)))) else none))) else none)))) else (some v.2.2))
def rY (N:Nat) (aG:Zv×Int×Zv->Option (Zv)) (v:Zv×Int×Zv):Option (Zv):=oC aG v
theorem QNU (N:Nat) (s0:St->Option (Zv)) (v):(ZR (QIO) QL9 6 N Tryz.f41 [qj] [true] [] 0 Xv) s0 (QD7 v)=rY N (fun v=>s0 (QD7 v)) v:=by kernel_rfl
def wV (aJ:Zv×Int×Zv->Option (Zv)) (x:Zv):Option (Zv):=
 (aJ (x,(0:Int),([]:List Y12)))
def QCQ (N:Nat) (x:Zv):Option (Zv):=wV (Gb (rY N) N) x
theorem QVy (N:Nat) (x:Zv):rise (QIO) QL9 6 N Tryz.f41 [qj] [qj] [true] x=QCQ N x:=Eq.trans (b:=wV (fun v=>Ot (ZR (QIO) QL9 6 N Tryz.f41 [qj] [true] [] 0 Xv) N (QD7 v)) x) (by kernel_rfl) (by rw [funext (Tf QD7 (QNU N) N)];rfl)
def ze (x:Zv):Option (Zv):=QCQ big x
def QOZ:U0:=⟨[qj],[qj],[true],fun x=>ze x⟩
theorem QTy:Hw Tryz.prog 41 QOZ:=rz (E:=QIO) ⟨aK,Yc,fun _ _ _=>rfl,mixed,Yt,Y0,Yz⟩ Tryz.func41 fun _ _ h=>(QVy big _).trans h
def QLA:LT:={ live:=[(4,[0,1,5])],keep:=[] }
noncomputable def QIP:Bn:={ tab:=tab,fs:=[],inl:=[] }
noncomputable def QD8 (v:aA×aA×Int):St:={ s:=[(0,(.val ⟨Z7,v.1⟩)),(1,(.val ⟨Z7,v.2.1⟩)),(5,(.val ⟨Z2,v.2.2⟩))],l:=[],k:=[],b:=4096 }
def nT (aG:aA×aA×Int->Option (Bool)) (v:aA×aA×Int):Option (Bool):=
 (bif (decide (v.2.2 < (List.length v.1:Int))) then ((Nk v.1 v.2.2).bind fun x1=>((Nk v.2.1 v.2.2).bind fun x2=>(bif (!(JW (.pair .str (.pair Z2 .unit)) x1 x2)) then (some false) else (let x3:Int:=(IntKind.i64.wrap (v.2.2+1));(aG (v.1,v.2.1,x3)))))) else (some true))
def dJ (N:Nat) (aG:aA×aA×Int->Option (Bool)) (v:aA×aA×Int):Option (Bool):=nT aG v
theorem QNV (N:Nat) (s0:St->Option (Bool)) (v):(ZR (QIP) QLA 6 N Tryz.f52 [.bool] [false] [] 0 Xv) s0 (QD8 v)=dJ N (fun v=>s0 (QD8 v)) v:=by kernel_rfl
def lM (aJ:aA×aA×Int->Option (Bool)) (x:aA×aA):Option (Bool):=
 (bif ((List.length x.1:Int) != (List.length x.2:Int)) then (some false) else (aJ (x.1,x.2,(0:Int))))
def wP (N:Nat) (x:aA×aA):Option (Bool):=lM (Gb (dJ N) N) x
theorem QVz (N:Nat) (x:aA×aA):rise (QIP) QLA 6 N Tryz.f52 [Z7,Z7] [.bool] [false] x=wP N x:=Eq.trans (b:=lM (fun v=>Ot (ZR (QIP) QLA 6 N Tryz.f52 [.bool] [false] [] 0 Xv) N (QD8 v)) x) (by kernel_rfl) (by rw [funext (Tf QD8 (QNV N) N)];rfl)
def kY (x:aA×aA):Option (Bool):=wP big x
def QKZ:U0:=⟨[Z7,Z7],[.bool],[false],fun x=>kY x⟩
theorem QOu:Hw Tryz.prog 52 QKZ:=rz (E:=QIP) ⟨aK,Yc,fun _ _ _=>rfl,mixed,Yt,Y0,Yz⟩ Tryz.func52 fun _ _ h=>(QVz big _).trans h
def QLB:LT:={ live:=[(4,[0,1,5])],keep:=[] }
noncomputable def QIQ:Bn:={ tab:=tab,fs:=[],inl:=[] }
noncomputable def QD9 (v:aB×aB×Int):St:={ s:=[(0,(.val ⟨ql,v.1⟩)),(1,(.val ⟨ql,v.2.1⟩)),(5,(.val ⟨Z2,v.2.2⟩))],l:=[],k:=[],b:=4096 }
def xI (aG:aB×aB×Int->Option (Bool)) (v:aB×aB×Int):Option (Bool):=
 (bif (decide (v.2.2 < (List.length v.1:Int))) then ((Nk v.1 v.2.2).bind fun x1=>((Nk v.2.1 v.2.2).bind fun x2=>(bif (!(JW Z4 x1 x2)) then (some false) else (let x3:Int:=(IntKind.i64.wrap (v.2.2+1));(aG (v.1,v.2.1,x3)))))) else (some true))
def kD (N:Nat) (aG:aB×aB×Int->Option (Bool)) (v:aB×aB×Int):Option (Bool):=xI aG v
theorem QNW (N:Nat) (s0:St->Option (Bool)) (v):(ZR (QIQ) QLB 6 N Tryz.f53 [.bool] [false] [] 0 Xv) s0 (QD9 v)=kD N (fun v=>s0 (QD9 v)) v:=by kernel_rfl
def wX (aJ:aB×aB×Int->Option (Bool)) (x:aB×aB):Option (Bool):=
 (bif ((List.length x.1:Int) != (List.length x.2:Int)) then (some false) else (aJ (x.1,x.2,(0:Int))))
def QCS (N:Nat) (x:aB×aB):Option (Bool):=wX (Gb (kD N) N) x
theorem QW0 (N:Nat) (x:aB×aB):rise (QIQ) QLB 6 N Tryz.f53 [ql,ql] [.bool] [false] x=QCS N x:=Eq.trans (b:=wX (fun v=>Ot (ZR (QIQ) QLB 6 N Tryz.f53 [.bool] [false] [] 0 Xv) N (QD9 v)) x) (by kernel_rfl) (by rw [funext (Tf QD9 (QNW N) N)];rfl)
def zh (x:aB×aB):Option (Bool):=QCS big x
def QOe:U0:=⟨[ql,ql],[.bool],[false],fun x=>zh x⟩
theorem QU3:Hw Tryz.prog 53 QOe:=rz (E:=QIQ) ⟨aK,Yc,fun _ _ _=>rfl,mixed,Yt,Y0,Yz⟩ Tryz.func53 fun _ _ h=>(QW0 big _).trans h
def QLC:LT:={ live:=[(4,[0,1,5])],keep:=[] }
noncomputable def QIR:Bn:={ tab:=tab,fs:=[],inl:=[] }
noncomputable def QDA (v:Zz×Zz×Int):St:={ s:=[(0,(.val ⟨Z5,v.1⟩)),(1,(.val ⟨Z5,v.2.1⟩)),(5,(.val ⟨Z2,v.2.2⟩))],l:=[],k:=[],b:=4096 }
def xJ (aG:Zz×Zz×Int->Option (Bool)) (v:Zz×Zz×Int):Option (Bool):=
 (bif (decide (v.2.2 < (List.length v.1:Int))) then ((Nk v.1 v.2.2).bind fun x1=>((Nk v.2.1 v.2.2).bind fun x2=>(bif (!(JW Z16 x1 x2)) then (some false) else (let x3:Int:=(IntKind.i64.wrap (v.2.2+1));(aG (v.1,v.2.1,x3)))))) else (some true))
def kE (N:Nat) (aG:Zz×Zz×Int->Option (Bool)) (v:Zz×Zz×Int):Option (Bool):=xJ aG v
theorem QNX (N:Nat) (s0:St->Option (Bool)) (v):(ZR (QIR) QLC 6 N Tryz.f54 [.bool] [false] [] 0 Xv) s0 (QDA v)=kE N (fun v=>s0 (QDA v)) v:=by kernel_rfl
def wZ (aJ:Zz×Zz×Int->Option (Bool)) (x:Zz×Zz):Option (Bool):=
 (bif ((List.length x.1:Int) != (List.length x.2:Int)) then (some false) else (aJ (x.1,x.2,(0:Int))))
def QCU (N:Nat) (x:Zz×Zz):Option (Bool):=wZ (Gb (kE N) N) x
theorem QW1 (N:Nat) (x:Zz×Zz):rise (QIR) QLC 6 N Tryz.f54 [Z5,Z5] [.bool] [false] x=QCU N x:=Eq.trans (b:=wZ (fun v=>Ot (ZR (QIR) QLC 6 N Tryz.f54 [.bool] [false] [] 0 Xv) N (QDA v)) x) (by kernel_rfl) (by rw [funext (Tf QDA (QNX N) N)];rfl)
def wF (x:Zz×Zz):Option (Bool):=QCU big x
def QOf:U0:=⟨[Z5,Z5],[.bool],[false],fun x=>wF x⟩
theorem QU4:Hw Tryz.prog 54 QOf:=rz (E:=QIR) ⟨aK,Yc,fun _ _ _=>rfl,mixed,Yt,Y0,Yz⟩ Tryz.func54 fun _ _ h=>(QW1 big _).trans h
def QUz:LT:={ live:=[],keep:=[] }
noncomputable def QSV:Bn:={ tab:=tab,fs:=[(52,QKZ),(53,QOe),(54,QOf)],inl:=[] }
def tT (x:Zu×Zu):Option (Bool):=
 (bif (JW .str x.1.1 x.2.1) then (bif (x.1.2.1==x.2.2.1) then (bif (x.1.2.2.1==x.2.2.2.1) then ((kY (x.1.2.2.2.1,x.2.2.2.2.1)).bind fun x1=>(bif x1 then ((zh (x.1.2.2.2.2.1,x.2.2.2.2.2.1)).bind fun x2=>(bif x2 then ((wF (x.1.2.2.2.2.2.1,x.2.2.2.2.2.2.1)).bind fun x3=>(bif x3 then ((wF (x.1.2.2.2.2.2.2.1,x.2.2.2.2.2.2.2.1)).bind fun x4=>(some x4)) else (some false))) else (some false))) else (some false))) else (some false)) else (some false)) else (some false))
def jr (x:Zu×Zu):Option (Bool):=tT x
def QKa:U0:=⟨[Z0,Z0],[.bool],[false],fun x=>jr x⟩
theorem QOv:Hw Tryz.prog 16 QKa:=rz (E:=QSV) (lt:=QUz) (lv:=6) (N:=big) ⟨aK,(YH QOu (YH QU3 (YH QU4 Yc))),fun _ _ _=>rfl,mixed,Yt,Y0,Yz⟩ Tryz.func16 fun x _ h=>Eq.trans (b:=jr x) (by kernel_rfl) h
def QLD:LT:={ live:=[(4,[0,1,5])],keep:=[] }
noncomputable def QIS:Bn:={ tab:=tab,fs:=[(52,QKZ)],inl:=[] }
noncomputable def QDB (v:Zv×Zv×Int):St:={ s:=[(0,(.val ⟨qj,v.1⟩)),(1,(.val ⟨qj,v.2.1⟩)),(5,(.val ⟨Z2,v.2.2⟩))],l:=[],k:=[],b:=4096 }
def om (aG:Zv×Zv×Int->Option (Bool)) (v:Zv×Zv×Int):Option (Bool):=
 (bif (decide (v.2.2 < (List.length v.1:Int))) then ((Nk v.1 v.2.2).bind fun x1=>((Nk v.2.1 v.2.2).bind fun x2=>(bif (x1.1 != x2.1) then (some false) else ((Nk v.1 v.2.2).bind fun x3=>((Nk v.2.1 v.2.2).bind fun x4=>(bif (x3.2.1 != x4.2.1) then (some false) else ((Nk v.1 v.2.2).bind fun x5=>((Nk v.2.1 v.2.2).bind fun x6=>(bif (x5.2.2.1 != x6.2.2.1) then (some false) else ((Nk v.1 v.2.2).bind fun x7=>((Nk v.2.1 v.2.2).bind fun x8=>((kY (x7.2.2.2.1,x8.2.2.2.1)).bind fun x9=>(bif (!x9) then (some false) else (let iO:Int:=(IntKind.i64.wrap (v.2.2+1));(aG (v.1,v.2.1,iO)))))))))))))))) else (some true))
def dY (N:Nat) (aG:Zv×Zv×Int->Option (Bool)) (v:Zv×Zv×Int):Option (Bool):=om aG v
theorem QNY (N:Nat) (s0:St->Option (Bool)) (v):(ZR (QIS) QLD 6 N Tryz.f62 [.bool] [false] [] 0 Xv) s0 (QDB v)=dY N (fun v=>s0 (QDB v)) v:=by kernel_rfl
def nJ (aJ:Zv×Zv×Int->Option (Bool)) (x:Zv×Zv):Option (Bool):=
 (bif ((List.length x.1:Int) != (List.length x.2:Int)) then (some false) else (aJ (x.1,x.2,(0:Int))))
def yJ (N:Nat) (x:Zv×Zv):Option (Bool):=nJ (Gb (dY N) N) x
theorem QW2 (N:Nat) (x:Zv×Zv):rise (QIS) QLD 6 N Tryz.f62 [qj,qj] [.bool] [false] x=yJ N x:=Eq.trans (b:=nJ (fun v=>Ot (ZR (QIS) QLD 6 N Tryz.f62 [.bool] [false] [] 0 Xv) N (QDB v)) x) (by kernel_rfl) (by rw [funext (Tf QDB (QNY N) N)];rfl)
def q8 (x:Zv×Zv):Option (Bool):=yJ big x
def QOg:U0:=⟨[qj,qj],[.bool],[false],fun x=>q8 x⟩
theorem QU5:Hw Tryz.prog 62 QOg:=rz (E:=QIS) ⟨aK,(YH QOu Yc),fun _ _ _=>rfl,mixed,Yt,Y0,Yz⟩ Tryz.func62 fun _ _ h=>(QW2 big _).trans h
def QGH:LT:={ live:=[(4,[2,3,5]),(9,[2,3,6])],keep:=[] }
noncomputable def QEN:Bn:={ tab:=tab,fs:=[(16,QKa),(62,QOg)],inl:=[] }
noncomputable def QDC (v:Y77):St:={ s:=[(2,(.loc 0 [])),(3,(.loc 1 [])),(6,(.val ⟨Z2,v.1⟩))],l:=[(0,.var Z3 (.val ⟨Z3,v.2.1⟩)),(1,.var Z3 (.val ⟨Z3,v.2.2⟩))],k:=[],b:=4096 }
noncomputable def QAF (v:Y77):St:={ s:=[(2,(.loc 0 [])),(3,(.loc 1 [])),(5,(.val ⟨Z2,v.1⟩))],l:=[(0,.var Z3 (.val ⟨Z3,v.2.1⟩)),(1,.var Z3 (.val ⟨Z3,v.2.2⟩))],k:=[],b:=4096 }
def xL (aG:Y77->Option (Bool)) (aH:Y77->Option (Bool)) (v:Y77):Option (Bool):=
 (bif (decide (v.1 < (List.length v.2.1.2.2.1:Int))) then ((Nk v.2.1.2.2.1 v.1).bind fun x5=>((Nk v.2.2.2.2.1 v.1).bind fun x6=>((jr (x5,x6)).bind fun x7=>(bif (!x7) then (some false) else (let x8:Int:=(IntKind.i64.wrap (v.1+1));(aH (x8,v.2.1,v.2.2))))))) else (some true))
def kK (N:Nat) (aG:Y77->Option (Bool)) (aH:Y77->Option (Bool)) (v:Y77):Option (Bool):=xL aG aH v
theorem QNa (N:Nat) (s0:St->Option (Bool)) (s1:St->Option (Bool)) (v):(ZR (QEN) QGH 6 N Tryz.f26 [.bool] [false] [] 1 Xv) s1 (QDC v)=kK N (fun v=>s0 (QAF v)) (fun v=>s1 (QDC v)) v:=by kernel_rfl
def sF (bF:Y77->Option (Bool)) (aG:Y77->Option (Bool)) (v:Y77):Option (Bool):=
 (bif (decide (v.1 < (List.length v.2.1.2.1:Int))) then ((Nk v.2.1.2.1 v.1).bind fun x2=>((Nk v.2.2.2.1 v.1).bind fun x3=>(bif (!(JW .str x2 x3)) then (some false) else (let x4:Int:=(IntKind.i64.wrap (v.1+1));(aG (x4,v.2.1,v.2.2)))))) else (bF ((0:Int),v.2.1,v.2.2)))
def kJ (N:Nat) (aG:Y77->Option (Bool)) (v:Y77):Option (Bool):=sF (Gb (kK N aG) N) aG v
theorem QNZ (N:Nat) (s0:St->Option (Bool)) (v):(ZR (QEN) QGH 6 N Tryz.f26 [.bool] [false] [] 0 Xv) s0 (QAF v)=kJ N (fun v=>s0 (QAF v)) v:=Eq.trans (b:=sF (fun v=>Ot (ZR (QEN) QGH 6 N Tryz.f26 [.bool] [false] [] 1 Xv) N (QDC v)) (fun v=>s0 (QAF v)) v) (by kernel_rfl) (by rw [funext (Tf QDC (QNa N s0) N)];rfl)
def wo (aJ:Y77->Option (Bool)) (x:Zx×Zx):Option (Bool):=
 ((q8 (x.1.1,x.2.1)).bind fun x1=>(bif (!x1) then (some false) else (bif ((List.length x.1.2.1:Int) != (List.length x.2.2.1:Int)) then (some false) else (bif ((List.length x.1.2.2.1:Int) != (List.length x.2.2.2.1:Int)) then (some false) else (aJ ((0:Int),x.1,x.2))))))
def QCW (N:Nat) (x:Zx×Zx):Option (Bool):=wo (Gb (kJ N) N) x
theorem QW3 (N:Nat) (x:Zx×Zx):rise (QEN) QGH 6 N Tryz.f26 [Z3,Z3] [.bool] [false] x=QCW N x:=Eq.trans (b:=wo (fun v=>Ot (ZR (QEN) QGH 6 N Tryz.f26 [.bool] [false] [] 0 Xv) N (QAF v)) x) (by kernel_rfl) (by rw [funext (Tf QAF (QNZ N) N)];rfl)
def jT (x:Zx×Zx):Option (Bool):=QCW big x
def QOh:U0:=⟨[Z3,Z3],[.bool],[false],fun x=>jT x⟩
theorem QU6:Hw Tryz.prog 26 QOh:=rz (E:=QEN) ⟨aK,(YH QOv (YH QU5 Yc)),fun _ _ _=>rfl,mixed,Yt,Y0,Yz⟩ Tryz.func26 fun _ _ h=>(QW3 big _).trans h
def gU:LT:={ live:=[(6,[1,3,4,5])],keep:=[(19,[1])] }
noncomputable def eD:Bn:={ tab:=tab,fs:=[(14,QOd),(16,QKa),(17,QOY),(18,Gz1),(23,QKY),(26,QOh),(27,QSo),(41,QOZ)],inl:=[(13,Tryz.f13,QUu)] }
noncomputable def iR (v:Y38):St:={ s:=[(1,(.loc 0 [])),(3,(.loc 1 [])),(4,(.val ⟨.bool,v.1⟩)),(5,(.val ⟨Z2,v.2.1⟩))],l:=[(0,.var Z3 (.val ⟨Z3,v.2.2.1⟩)),(1,.var Z3 (.pair (.row 2) (.pair (.row 3) (.pair (.row 4) .unit)))),(2,.row Z1 v.2.2.2.1),(3,.row .str v.2.2.2.2.1),(4,.row Z0 v.2.2.2.2.2)],k:=[],b:=4096 }
noncomputable def dD (v:Y26):St:={ s:=[(1,(.loc 0 [])),(2,(.loc 1 [])),(3,(.loc 5 [])),(4,(.val ⟨Z2,v.1⟩))],l:=[(0,.var Z3 (.val ⟨Z3,v.2.1⟩)),(1,.var Z3 (.pair (.row 2) (.pair (.row 3) (.pair (.row 4) (.val ⟨.unit,v.2.2.1⟩))))),(2,.row Z1 v.2.2.2.1),(3,.row .str v.2.2.2.2.1),(4,.row Z0 v.2.2.2.2.2.1),(5,.var Z3 (.pair (.row 6) (.pair (.row 7) (.pair (.row 8) .unit)))),(6,.row Z1 v.2.2.2.2.2.2.1),(7,.row .str v.2.2.2.2.2.2.2.1),(8,.row Z0 v.2.2.2.2.2.2.2.2.1),(9,.var Z3 (.val ⟨Z3,v.2.2.2.2.2.2.2.2.2⟩))],k:=[(4096,[(1,(.loc 9 []))])],b:=16859136 }
def nR (aG:Y26->Option (Bool)) (aH:Y38->Option (Bool)) (v:Y38):Option (Bool):=
 (bif (decide (v.2.1 < (List.length v.2.2.1.2.2.1:Int))) then ((rH (v.2.2.1,v.2.1)).bind fun zU=>(bif (zU.2 != 0) then (let x20:Int:=(IntKind.i64.wrap (v.2.1+1));(aH (false,x20,v.2.2.1,v.2.2.2.1,v.2.2.2.2.1,v.2.2.2.2.2))) else ((Nk v.2.2.1.2.2.1 v.2.1).bind fun x21=>(let zV:Zu:=(x21.1,(x21.2.1,(x21.2.2.1,(x21.2.2.2.1,(x21.2.2.2.2.1,(zU.1.2.2.2.2.2.1,x21.2.2.2.2.2.2))))));(let x23:Zu:=(zV.1,(zV.2.1,(zV.2.2.1,(zV.2.2.2.1,(zV.2.2.2.2.1,(zV.2.2.2.2.2.1,(zU.1.2.2.2.2.2.2.1,zV.2.2.2.2.2.2.2)))))));((jr (zU.1,x23)).bind fun x24=>(bif (!x24) then (some false) else (bif (decide (0<=v.2.1)&&decide (v.2.1 < (List.length v.2.2.2.2.2:Int))) then (let x25:Y16:=(List.set v.2.2.2.2.2 (Int.toNat v.2.1) zU.1);(let x26:Int:=(IntKind.i64.wrap (v.2.1+1));(aH (v.1,x26,v.2.2.1,v.2.2.2.1,v.2.2.2.2.1,x25)))) else none)))))))) else ((fJ v.2.2.1).bind fun x27=>(bif v.1 then ((pY (v.2.2.2.1,(v.2.2.2.2.1,(v.2.2.2.2.2,())))).bind fun x28=>(bif (x28==0) then ((fJ (v.2.2.2.1,(v.2.2.2.2.1,(v.2.2.2.2.2,())))).bind fun x29=>(bif (x29 != 0) then (some false) else (bif (!v.1) then (bif (x27==0) then (some false) else ((fJ (v.2.2.2.1,(v.2.2.2.2.1,(v.2.2.2.2.2,())))).bind fun x30=>(bif (x30==0) then (some false) else (bif (x27 != 0) then ((aV ()).bind fun x31=>(some x31)) else ((jT (v.2.2.1,(v.2.2.2.1,(v.2.2.2.2.1,(v.2.2.2.2.2,()))))).bind fun x32=>(bif x32 then ((aV ()).bind fun x33=>(some x33)) else (some false))))))) else (bif (x27 != 0) then ((aV ()).bind fun x34=>(some x34)) else ((jT (v.2.2.1,(v.2.2.2.1,(v.2.2.2.2.1,(v.2.2.2.2.2,()))))).bind fun x35=>(bif x35 then ((aV ()).bind fun x36=>(some x36)) else (some false))))))) else (bif (!v.1) then (bif (x27==0) then (some false) else ((fJ (v.2.2.2.1,(v.2.2.2.2.1,(v.2.2.2.2.2,())))).bind fun x37=>(bif (x37==0) then (some false) else (bif (x27 != 0) then ((aV ()).bind fun x38=>(some x38)) else ((jT (v.2.2.1,(v.2.2.2.1,(v.2.2.2.2.1,(v.2.2.2.2.2,()))))).bind fun x39=>(bif x39 then ((aV ()).bind fun x40=>(some x40)) else (some false))))))) else (bif (x27 != 0) then ((aV ()).bind fun x41=>(some x41)) else ((jT (v.2.2.1,(v.2.2.2.1,(v.2.2.2.2.1,(v.2.2.2.2.2,()))))).bind fun x42=>(bif x42 then ((aV ()).bind fun x43=>(some x43)) else (some false))))))) else (bif (!v.1) then (bif (x27==0) then (some false) else ((fJ (v.2.2.2.1,(v.2.2.2.2.1,(v.2.2.2.2.2,())))).bind fun x44=>(bif (x44==0) then (some false) else (bif (x27 != 0) then ((aV ()).bind fun x45=>(some x45)) else ((jT (v.2.2.1,(v.2.2.2.1,(v.2.2.2.2.1,(v.2.2.2.2.2,()))))).bind fun x46=>(bif x46 then ((aV ()).bind fun x47=>(some x47)) else (some false))))))) else (bif (x27 != 0) then ((aV ()).bind fun x48=>(some x48)) else ((jT (v.2.2.1,(v.2.2.2.1,(v.2.2.2.2.1,(v.2.2.2.2.2,()))))).bind fun x49=>(bif x49 then ((aV ()).bind fun x50=>(some x50)) else (some false))))))))
def dI (N:Nat) (aG:Y26->Option (Bool)) (aH:Y38->Option (Bool)) (v:Y38):Option (Bool):=nR aG aH v
theorem QAP (N:Nat) (s0:St->Option (Bool)) (s1:St->Option (Bool)) (v):(ZR (eD) gU 6 N Tryz.f6 [.bool] [false] [] 0 Xv) s1 (iR v)=dI N (fun v=>s0 (dD v)) (fun v=>s1 (iR v)) v:=by kernel_rfl
def iU (bF:Y38->Option (Bool)) (aG:Y26->Option (Bool)) (v:Y26):Option (Bool):=
 (bif (decide (v.1 < (List.length v.2.1.2.2.1:Int))) then ((Nk v.2.1.2.2.1 v.1).bind fun x7=>(let x8:aA:=([]:aA);(bif (Nat.ble 1 2&&Nat.ble (List.length x8+List.length x7.2.2.2.1) lim) then (let x9:aA:=(List.append x8 x7.2.2.2.1);(let iO:aB:=([]:aB);(bif (Nat.ble 1 4&&Nat.ble (List.length iO+List.length x7.2.2.2.2.1) lim) then (let pE:aB:=(List.append iO x7.2.2.2.2.1);(let qh:Zz:=([]:Zz);(bif (Nat.ble 1 2&&Nat.ble (List.length qh+List.length x7.2.2.2.2.2.1) lim) then (let sQ:Zz:=(List.append qh x7.2.2.2.2.2.1);(let lN:Zz:=([]:Zz);(bif (Nat.ble 1 2&&Nat.ble (List.length lN+List.length x7.2.2.2.2.2.2.1) lim) then (let lS:Zz:=(List.append lN x7.2.2.2.2.2.2.1);(let xq:Y16:=([(x7.1,(x7.2.1,(x7.2.2.1,(x9,(pE,(sQ,(lS,x7.2.2.2.2.2.2.2)))))))]:Y16);(bif (Nat.ble 1 7&&Nat.ble (List.length v.2.2.2.2.2.2.2.2.1+List.length xq) lim) then (let zS:Y16:=(List.append v.2.2.2.2.2.2.2.2.1 xq);(let x18:Int:=(IntKind.i64.wrap (v.1+1));(aG (x18,v.2.1,v.2.2.1,v.2.2.2.1,v.2.2.2.2.1,v.2.2.2.2.2.1,v.2.2.2.2.2.2.1,v.2.2.2.2.2.2.2.1,zS,v.2.2.2.2.2.2.2.2.2)))) else none))) else none))) else none))) else none))) else none))) else (bF (true,(0:Int),v.2.2.2.2.2.2.2.2.2,v.2.2.2.2.2.2.1,v.2.2.2.2.2.2.2.1,v.2.2.2.2.2.2.2.2.1)))
def dH (N:Nat) (aG:Y26->Option (Bool)) (v:Y26):Option (Bool):=iU (Gb (dI N aG) N) aG v
theorem QAO (N:Nat) (s0:St->Option (Bool)) (v):(ZR (eD) gU 6 N Tryz.f6 [.bool] [false] [.call 3 1 13] 0 Xv) s0 (dD v)=dH N (fun v=>s0 (dD v)) v:=Eq.trans (b:=iU (fun v=>Ot (ZR (eD) gU 6 N Tryz.f6 [.bool] [false] [] 0 Xv) N (iR v)) (fun v=>s0 (dD v)) v) (by kernel_rfl) (by rw [funext (Tf iR (QAP N s0) N)];rfl)
def lK (aJ:Y26->Option (Bool)) (x:Zx):Option (Bool):=
 ((yj x).bind fun x1=>(bif x1 then ((aV ()).bind fun x2=>(some x2)) else ((pY x).bind fun x3=>(bif (x3 != 0) then ((aV ()).bind fun x4=>(some x4)) else ((ze x.1).bind fun x5=>(bif (Nat.ble 1 1&&Nat.ble (List.length ([]:xZ)+List.length x.2.1) lim) then (let x6:xZ:=(List.append ([]:xZ) x.2.1);(aJ ((0:Int),x,(),([]:List Y12),([]:List Zw),([]:List Zu),x5,x6,([]:List Zu),x))) else none))))))
def wO (N:Nat) (x:Zx):Option (Bool):=lK (Gb (dH N) N) x
theorem QBA (N:Nat) (x:Zx):rise (eD) gU 6 N Tryz.f6 [Z3] [.bool] [false] x=wO N x:=Eq.trans (b:=lK (fun v=>Ot (ZR (eD) gU 6 N Tryz.f6 [.bool] [false] [.call 3 1 13] 0 Xv) N (dD v)) x) (by kernel_rfl) (by rw [funext (Tf dD (QAO N) N)];rfl)
def wC (x:Zx):Option (Bool):=wO big x
def kT:U0:=⟨[Z3],[.bool],[false],fun x=>wC x⟩
theorem QAv:Hw Tryz.prog 6 kT:=rz (E:=eD) ⟨aK,(YH QU2 (YH QOv (YH QTx (YH Lz1 (YH QOt (YH QU6 (YH QXM (YH QTy Yc)))))))),fun _ _ _=>rfl,mixed,(YP (YO Tryz.func13 rfl rfl (by kernel_rfl)) Yt),Y0,Yz⟩ Tryz.func6 fun _ _ h=>(QBA big _).trans h
end Go.Proofs.YtbgmjjplddddnaaGreatDoor
